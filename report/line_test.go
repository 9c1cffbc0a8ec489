package report

import (
	"testing"

	"headgate/audit"
)

// TestInput tells also what no script comes to: an input that is not sound.
func TestInput(t *testing.T) {
	w := &writer{}
	w.input(3, audit.Line{Records: 12, Committed: 10, Over: 3, Sound: true})
	w.input(4, audit.Line{Records: 12, Committed: 13})
	if s := w.String(); s != "input 3: 12 records, 10 committed, 3 windows\ninput 4: 12 records, 13 committed, 0 windows, not sound\n" {
		t.Error(s)
	}
}

func TestLine(t *testing.T) {
	w := &writer{}
	w.line("a ", 0, "", -7, " b")
	w.line()
	if s := w.String(); s != "a 0-7 b\n\n" {
		t.Errorf("%q", s)
	}
}
