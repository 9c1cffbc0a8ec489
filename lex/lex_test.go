package lex_test

import (
	"math"
	"math/rand"
	"slices"
	"strings"
	"testing"

	"headgate/api"
	"headgate/lex"
)

func number(n, at int) api.Token {
	return api.Token{Kind: api.TokNumber, N: n, At: at}
}

func word(s string, at int) api.Token {
	return api.Token{Kind: api.TokWord, S: s, At: at}
}

func sign(s string, at int) api.Token {
	return api.Token{Kind: api.TokSign, S: s, At: at}
}

func TestCut(t *testing.T) {
	for _, x := range []struct {
		s string
		w []api.Token
	}{
		{"", nil}, {" \t\r\n", nil}, {"# all of it", nil}, {"#", nil},
		{"a1<=07 # x", []api.Token{word("a1", 0), sign("<=", 2), number(7, 4)}},
		{"12ab_3", []api.Token{number(12, 0), word("ab_3", 2)}},
		{"_ a_ z9", []api.Token{word("_", 0), word("a_", 2), word("z9", 5)}},
		{"a#b\nc", []api.Token{word("a", 0), word("c", 4)}},
		{"a#b#\n#\n c", []api.Token{word("a", 0), word("c", 8)}},
		{"a\tb\rc\nd", []api.Token{word("a", 0), word("b", 2), word("c", 4), word("d", 6)}},
		{"9223372036854775807", []api.Token{number(math.MaxInt, 0)}},
		{"0000000000000000000000000001", []api.Token{number(1, 0)}},
		{"<>=<=>=<", []api.Token{sign("<>", 0), sign("=", 2), sign("<=", 3), sign(">=", 5), sign("<", 7)}},
		{"+-*/%=<>(),:;{}[]", []api.Token{sign("+", 0), sign("-", 1), sign("*", 2), sign("/", 3), sign("%", 4), sign("=", 5), sign("<>", 6), sign("(", 8), sign(")", 9), sign(",", 10), sign(":", 11), sign(";", 12), sign("{", 13), sign("}", 14), sign("[", 15), sign("]", 16)}},
		{"> =><", []api.Token{sign(">", 0), sign("=", 2), sign(">", 3), sign("<", 4)}},
		{strings.Repeat(" ", api.MaxQuery-1) + "a", []api.Token{word("a", api.MaxQuery-1)}},
	} {
		if l, at, e := lex.Cut(x.s); !slices.Equal(l, x.w) || at != 0 || e != api.OK {
			t.Errorf("Cut(%.30q) = %v %d %d", x.s, l, at, e)
		}
	}
}

func TestCutWrong(t *testing.T) {
	for _, x := range []struct {
		s  string
		at int
		e  api.Errno
	}{
		{"a B", 2, api.ErrForm}, {"a ?", 2, api.ErrForm}, {"aB", 1, api.ErrForm}, {"1 \"", 2, api.ErrForm}, {"\x00", 0, api.ErrForm}, {"ab é", 3, api.ErrForm},
		{"!", 0, api.ErrForm}, {"a\vb", 1, api.ErrForm}, {"# ok\n@", 5, api.ErrForm},
		{"a 9223372036854775808", 2, api.ErrRange}, {"99999999999999999999999999 ?", 0, api.ErrRange}, {"? 99999999999999999999999999", 0, api.ErrForm},
		{strings.Repeat(" ", api.MaxQuery+1), 0, api.ErrArg}, {strings.Repeat("?", api.MaxQuery+1), 0, api.ErrArg},
	} {
		if l, at, e := lex.Cut(x.s); l != nil || at != x.at || e != x.e {
			t.Errorf("Cut(%.30q) = %v %d %d", x.s, l, at, e)
		}
	}
}

func TestPlace(t *testing.T) {
	for _, x := range []struct {
		s             string
		at, line, col int
	}{
		{"ab\ncde", 4, 2, 2}, {"ab\ncde", 0, 1, 1}, {"ab\ncde", 2, 1, 3}, {"ab\ncde", 3, 2, 1}, {"ab\ncde", 6, 2, 4}, {"ab\ncde", 99, 2, 4},
		{"ab\ncde", -5, 1, 1}, {"", 0, 1, 1}, {"", 9, 1, 1}, {"\n\n", 2, 3, 1}, {"\n\n", 1, 2, 1}, {"a\r\nb", 2, 1, 3}, {"é", 2, 1, 3},
		{"x", math.MaxInt, 1, 2}, {"x", math.MinInt, 1, 1},
	} {
		if line, col := lex.Place(x.s, x.at); line != x.line || col != x.col {
			t.Errorf("Place(%q, %d) = %d %d", x.s, x.at, line, col)
		}
	}
}

// TestSpaces: tokens come in order, do not overlap, and are the same with more space between them.
func TestSpaces(t *testing.T) {
	r := rand.New(rand.NewSource(1))
	for range 5000 {
		b := make([]byte, r.Intn(30))
		for i := range b {
			b[i] = "ab_ 019<>=+(;\n"[r.Intn(14)]
		}
		s := string(b)
		l, _, e := lex.Cut(s)
		if e != api.OK {
			t.Fatal(s, e)
		}
		wide, end := "", 0
		for i, x := range l {
			if x.At < end {
				t.Fatal(l)
			}
			end = len(s)
			if i+1 < len(l) {
				end = l[i+1].At
			}
			text := strings.TrimSpace(s[x.At:end])
			if x.Kind != api.TokNumber && x.S != text {
				t.Fatalf("%q: %v", s, l)
			}
			wide += strings.Repeat(" ", r.Intn(3)) + text + " # \n"
		}
		again, _, e := lex.Cut(wide)
		for i := range again {
			again[i].At = 0
			l[i].At = 0
		}
		if !slices.Equal(l, again) || e != api.OK {
			t.Fatalf("%q %v: %q %v", s, l, wide, again)
		}
	}
}
