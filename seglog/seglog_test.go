package seglog_test

import (
	"math"
	"math/rand"
	"slices"
	"strings"
	"testing"

	"headgate/api"
	"headgate/disk"
	"headgate/frame"
	"headgate/seglog"
)

func fresh(t *testing.T, n int) *disk.Disk {
	t.Helper()
	d, e := disk.New(n)
	if e != api.OK {
		t.Fatal(e)
	}
	return d
}

func open(t *testing.T, d *disk.Disk, name string) *seglog.Log {
	t.Helper()
	l, e := seglog.Open(d, name)
	if e != api.OK || l == nil {
		t.Fatal(e)
	}
	return l
}

// put appends an item with a text of n bytes.
func put(t *testing.T, l *seglog.Log, n int) {
	t.Helper()
	next := l.Next()
	if off, e := l.Append(api.Item{N: 1, Text: strings.Repeat("x", n)}); off != next || e != api.OK {
		t.Fatalf("Append: %d %d", off, e)
	}
}

// refuse asks for an Append that fails.
func refuse(t *testing.T, l *seglog.Log, w api.Errno, items ...api.Item) {
	t.Helper()
	next, sure, segs := l.Next(), l.Sure(), l.Segments()
	if off, e := l.Append(items...); off != 0 || e != w {
		t.Fatalf("Append: %d %d, not %d", off, e, w)
	}
	if l.Next() != next || l.Sure() < sure || !slices.Equal(l.Segments(), segs) {
		t.Fatalf("Append failed and changed the log: %d %v", l.Next(), l.Segments())
	}
}

func names(d *disk.Disk) string {
	s := ""
	for _, f := range d.Files() {
		s += f.Name + " "
	}
	return s
}

func TestOpen(t *testing.T) {
	d := fresh(t, 100)
	for _, name := range []string{"a", "z", "0", "9", "az09"} {
		open(t, d, name)
	}
	for _, name := range []string{"", "A", "a.", "a-b", "ninebytes", "a b", "`", "{", "/", ":", "az`", "é"} {
		if l, e := seglog.Open(d, name); l != nil || e != api.ErrArg {
			t.Errorf("Open(%q): %d", name, e)
		}
	}
	if l, e := seglog.Open(nil, "a"); l != nil || e != api.ErrArg {
		t.Error(e)
	}
	l := open(t, d, "eightbyt")
	if l.First() != 0 || l.Next() != 0 || l.Sure() != 0 || len(l.Segments()) != 0 || len(l.Marks()) != 0 || l.Broken() != api.OK || len(d.Files()) != 0 {
		t.Error("a log without segments")
	}
	if e := l.Sync(); e != api.OK {
		t.Error(e)
	}
	d.Append("f", "x")
	d.Fuse(0)
	d.Sync("f")
	if l, e := seglog.Open(d, "a"); l != nil || e != api.ErrPower {
		t.Error(e)
	}
	if l, e := seglog.Open(d, "A"); l != nil || e != api.ErrArg {
		t.Error(e)
	}
	// Without segments there is nothing to read and nothing to sync.
	if got, e := l.Fetch(0, 1); len(got) != 0 || e != api.OK {
		t.Error(got, e)
	}
	if e := l.Sync(); e != api.OK {
		t.Error(e)
	}
}

func TestExamples(t *testing.T) {
	d := fresh(t, 100)
	l := open(t, d, "a")
	if off, e := l.Append(api.Item{N: 1, Text: "x"}, api.Item{N: 3, Text: "y"}); off != 0 || e != api.OK {
		t.Error(off, e)
	}
	if l.Next() != 4 || l.Sure() != 0 || names(d) != "a.0000000000000 " {
		t.Error(l.Next(), l.Sure(), names(d))
	}
	for off, w := range []api.Entry{{Base: 0, N: 1, Text: "x"}, {Base: 1, N: 3, Text: "y"}, {Base: 1, N: 3, Text: "y"}, {Base: 1, N: 3, Text: "y"}} {
		if got, e := l.Fetch(off, 1); len(got) != 1 || got[0] != w || e != api.OK {
			t.Error(off, got, e)
		}
	}
	if got, e := l.Fetch(4, 1); len(got) != 0 || e != api.OK {
		t.Error(got, e)
	}
	for _, x := range []struct {
		off, most int
		e         api.Errno
	}{{0, 0, api.ErrArg}, {-1, 1, api.ErrRange}, {5, 1, api.ErrRange}, {-1, 33, api.ErrArg}, {0, -1, api.ErrArg}, {math.MaxInt, 32, api.ErrRange}, {math.MinInt, 32, api.ErrRange}} {
		if got, e := l.Fetch(x.off, x.most); len(got) != 0 || e != x.e {
			t.Error(x, got, e)
		}
	}
	if e := l.Sync(); e != api.OK || l.Sure() != 4 {
		t.Error(e, l.Sure())
	}
	refuse(t, l, api.ErrArg)
	refuse(t, l, api.ErrArg, api.Item{N: 0})
	refuse(t, l, api.ErrArg, api.Item{N: 1}, api.Item{N: 65})
	refuse(t, l, api.ErrArg, api.Item{N: 1, Text: strings.Repeat("x", api.MaxEntry+1)})
	if w := []api.Mark{{Off: 0, Seg: 0, Pos: 0}}; !slices.Equal(l.Marks(), w) {
		t.Error(l.Marks())
	}
}

// TestSegments has frames of 100 bytes, so that a segment is full with 11 of them, and a mark has three.
func TestSegments(t *testing.T) {
	d := fresh(t, 1000)
	l := open(t, d, "a")
	d.Append("a.000000000000", "no segment of the log")
	d.Append("a.0000000000x00", "neither")
	d.Append("b.0000000000000", "nor this")
	d.Append("a.9999999999999", "beyond all numbers")
	var segs []api.Seg
	var marks []api.Mark
	for i := range 40 {
		size := 92 // one byte of Base, one of N, two of the length, four of the sum
		if i >= 64 {
			size--
		}
		put(t, l, size)
		if i%11 == 0 {
			segs = append(segs, api.Seg{Base: i})
		}
		s := &segs[len(segs)-1]
		if i%11%3 == 0 {
			marks = append(marks, api.Mark{Off: i, Seg: s.Base, Pos: s.Bytes})
		}
		s.Bytes += 100
		s.Entries++
		if !slices.Equal(l.Segments(), segs) || !slices.Equal(l.Marks(), marks) || l.Sure() != s.Base {
			t.Fatalf("%d: %v %v %d", i, l.Segments(), l.Marks(), l.Sure())
		}
	}
	m := open(t, d, "a")
	if !slices.Equal(m.Segments(), segs) || !slices.Equal(m.Marks(), marks) || m.Next() != 40 || m.Sure() != 40 {
		t.Errorf("%v %v %d %d", m.Segments(), m.Marks(), m.Next(), m.Sure())
	}
	for off := range 41 {
		for most := 1; most <= api.MaxMost; most++ {
			got, e := m.Fetch(off, most)
			if len(got) != min(most, 40-off) || e != api.OK {
				t.Fatalf("Fetch(%d, %d): %d %d", off, most, len(got), e)
			}
			for i, x := range got {
				if x.Base != off+i {
					t.Fatalf("Fetch(%d, %d): %d at %d", off, most, x.Base, i)
				}
			}
		}
	}
}

// TestEdges: a segment is full, and a mark is made, from a number of bytes on, not behind it.
func TestEdges(t *testing.T) {
	for bytes := 1022; bytes <= 1026; bytes++ {
		l := open(t, fresh(t, 1000), "a")
		put(t, l, bytes-500-9)
		put(t, l, 500-9)
		have := l.Segments()[0].Bytes
		put(t, l, 1)
		if full := len(l.Segments()) == 2; full != (have >= 1024) {
			t.Error(have, full)
		}
	}
	for bytes := 252; bytes <= 260; bytes++ {
		l := open(t, fresh(t, 1000), "a")
		put(t, l, bytes-9)
		pos := l.Segments()[0].Bytes
		put(t, l, 1)
		if marked := len(l.Marks()) == 2; marked != (pos >= 256) {
			t.Error(pos, marked)
		}
	}
}

// TestTwo: a log tells what it knows of, not what another one has written to the same files.
func TestTwo(t *testing.T) {
	d := fresh(t, 100)
	l := open(t, d, "a")
	put(t, l, 5)
	put(t, open(t, d, "a"), 6)
	if got, e := l.Fetch(0, 9); len(got) != 1 || e != api.OK || l.Next() != 1 {
		t.Error(got, e)
	}
}

func TestFullDisk(t *testing.T) {
	d := fresh(t, 18)
	l := open(t, d, "a")
	big := api.Item{N: 2, Text: strings.Repeat("x", 1100)}
	if _, e := l.Append(big); e != api.OK {
		t.Fatal(e)
	}
	if l.Sure() != 0 {
		t.Error(l.Sure())
	}
	// The full segment is synced, though there is no room for another one.
	refuse(t, l, api.ErrFull, api.Item{N: 1})
	if l.Sure() != 2 || l.Broken() != api.OK {
		t.Error(l.Sure(), l.Broken())
	}
	if f := d.Files(); len(f) != 1 || f[0].Loose != "" {
		t.Error(f)
	}
	d = fresh(t, 18)
	l = open(t, d, "a")
	put(t, l, 1000)
	refuse(t, l, api.ErrFull, api.Item{N: 1}, api.Item{N: 1, Text: strings.Repeat("x", 200)})
	put(t, l, 10)
	if l.Next() != 2 || l.Sure() != 0 {
		t.Error(l.Next(), l.Sure())
	}
}

func TestRange(t *testing.T) {
	d := fresh(t, 100)
	text, _ := frame.Lay(api.Entry{Base: api.MaxNum - 70, N: 5, Text: "x"})
	d.Append("a.1099511627706", text)
	l := open(t, d, "a")
	if l.First() != api.MaxNum-70 || l.Next() != api.MaxNum-65 {
		t.Fatal(l.First(), l.Next())
	}
	refuse(t, l, api.ErrRange, api.Item{N: 64}, api.Item{N: 2})
	refuse(t, l, api.ErrRange, api.Item{N: 64}, api.Item{N: 2}, api.Item{N: 0})
	refuse(t, l, api.ErrArg, api.Item{N: 64}, api.Item{N: 65}, api.Item{N: 2})
	if off, e := l.Append(api.Item{N: 64}, api.Item{N: 1}); off != api.MaxNum-65 || e != api.OK {
		t.Error(off, e)
	}
	refuse(t, l, api.ErrRange, api.Item{N: 1})
	if got, e := l.Fetch(l.First()-1, 1); len(got) != 0 || e != api.ErrRange {
		t.Error(got, e)
	}
	if got, e := l.Fetch(api.MaxNum, 1); len(got) != 0 || e != api.OK {
		t.Error(got, e)
	}
	if m := open(t, d, "a"); m.Next() != api.MaxNum {
		t.Error(m.Next())
	}
	// An entry that would end beyond all offsets is none.
	text, _ = frame.Lay(api.Entry{Base: api.MaxNum, N: 1})
	d.Append("b.1099511627776", text)
	m := open(t, d, "b")
	if m.Next() != api.MaxNum || !slices.Equal(m.Segments(), []api.Seg{{Base: api.MaxNum}}) {
		t.Error(m.Next(), m.Segments())
	}
	if s, _ := d.Read("b.1099511627776"); s != "" {
		t.Errorf("%x", s)
	}
}

func TestForm(t *testing.T) {
	at := func(base, n int) string {
		s, _ := frame.Lay(api.Entry{Base: base, N: n, Text: "x"})
		return s
	}
	for i, x := range []struct {
		one, two  string
		next, end int
		e         api.Errno
	}{
		{at(0, 1) + at(1, 2), at(3, 1), 4, 1, api.OK},
		{at(0, 1) + at(1, 2), "", 3, 0, api.OK},
		{at(0, 1) + at(1, 2), at(3, 1) + "torn", 4, 1, api.OK},
		{at(0, 1) + at(1, 2), at(3, 1) + at(5, 1), 4, 1, api.OK}, // an offset is left out
		{at(0, 1) + at(1, 2), at(0, 1), 3, 0, api.OK},
		{at(0, 1) + at(1, 2) + "torn", at(3, 1), 0, 0, api.ErrForm},
		{at(0, 1) + at(1, 1), at(3, 1), 0, 0, api.ErrForm}, // the second one begins too late
		{at(0, 1) + at(1, 3), at(3, 1), 0, 0, api.ErrForm}, // too early
		{"", at(3, 1), 0, 0, api.ErrForm},
		{"torn", at(3, 1), 0, 0, api.ErrForm},
	} {
		d := fresh(t, 100)
		d.Append("a.0000000000000", x.one)
		d.Append("a.0000000000003", x.two)
		l, e := seglog.Open(d, "a")
		if e != x.e || (l == nil) != (e != api.OK) {
			t.Errorf("%d: %d", i, e)
		}
		if e != api.OK {
			continue
		}
		s := l.Segments()
		if l.Next() != x.next || l.Sure() != x.next || len(s) != 2 || s[1].Entries != x.end {
			t.Errorf("%d: %d %v", i, l.Next(), s)
		}
		f := d.Files()
		if len(f[1].Sure) != s[1].Bytes || f[1].Loose != "" {
			t.Errorf("%d: %v", i, f)
		}
		put(t, l, 5)
	}
}

// TestOpenFuse: Open cuts and syncs, and tells if the power fails.
func TestOpenFuse(t *testing.T) {
	for fuse, w := range []api.Errno{api.ErrPower, api.ErrPower, api.OK} {
		d := fresh(t, 100)
		put(t, open(t, d, "a"), 5)
		d.Append("a.0000000000000", "torn")
		d.Fuse(fuse)
		l, e := seglog.Open(d, "a")
		if e != w || (l == nil) != (e != api.OK) {
			t.Errorf("%d: %d", fuse, e)
		}
	}
}

func TestBroken(t *testing.T) {
	d := fresh(t, 100)
	l := open(t, d, "a")
	put(t, l, 5)
	d.Fuse(0)
	refuse(t, l, api.ErrPower, api.Item{N: 1})
	d.Crash(99)
	for range 2 {
		refuse(t, l, api.ErrPower, api.Item{N: 0})
		refuse(t, l, api.ErrArg)
		if e := l.Sync(); e != api.ErrPower || l.Broken() != api.ErrPower || l.Sure() != 0 {
			t.Error(e, l.Broken(), l.Sure())
		}
		if got, e := l.Fetch(0, 1); len(got) != 0 || e != api.ErrPower {
			t.Error(got, e)
		}
		if _, e := l.Fetch(-1, 1); e != api.ErrPower {
			t.Error(e)
		}
		if _, e := l.Fetch(-1, 0); e != api.ErrArg {
			t.Error(e)
		}
	}
	if l = open(t, d, "a"); l.Next() != 2 {
		t.Error(l.Next())
	}
	d.Fuse(0)
	if e := l.Sync(); e != api.ErrPower || l.Broken() != api.ErrPower {
		t.Error(e)
	}
	// The sync of a full segment breaks a log, too.
	d.Crash(99)
	l = open(t, d, "a")
	put(t, l, 1100)
	d.Fuse(0)
	refuse(t, l, api.ErrPower, api.Item{N: 1})
	if l.Broken() != api.ErrPower {
		t.Error(l.Broken())
	}
	// Without power, a log with a segment can't be read, not even at its end.
	d.Crash(9999)
	l = open(t, d, "a")
	d.Fuse(0)
	d.Sync("a.0000000000000")
	for _, off := range []int{0, 1, l.Next()} {
		if got, e := l.Fetch(off, 1); len(got) != 0 || e != api.ErrPower {
			t.Error(got, e)
		}
	}
	if _, e := l.Fetch(-1, 1); e != api.ErrRange || l.Broken() != api.OK {
		t.Error(e, l.Broken())
	}
}

func TestNil(t *testing.T) {
	for i, l := range []*seglog.Log{nil, {}} {
		off, e := l.Append(api.Item{N: 1})
		if off != 0 || e == api.OK {
			t.Error(off, e)
		}
		if got, e := l.Fetch(0, 1); got != nil || e == api.OK {
			t.Error(got, e)
		}
		if l.Sync() == api.OK || l.First() != 0 || l.Next() != 0 || l.Sure() != 0 || l.Segments() != nil || l.Marks() != nil {
			t.Error(i)
		}
	}
	var l *seglog.Log
	if _, e := l.Append(); e != api.ErrArg || l.Broken() != api.ErrArg || l.Sync() != api.ErrArg {
		t.Error(e)
	}
}

// TestCrash: whatever is kept, the log has all that was synced, and a prefix of the rest.
func TestCrash(t *testing.T) {
	r := rand.New(rand.NewSource(1))
	for range 300 {
		d := fresh(t, 60+r.Intn(200))
		l := open(t, d, "log")
		var all []api.Entry
		for range 60 {
			var items []api.Item
			for range 1 + r.Intn(3) {
				items = append(items, api.Item{N: 1 + r.Intn(5), Text: strings.Repeat("y", r.Intn(300))})
			}
			if r.Intn(12) == 0 {
				d.Fuse(r.Intn(4))
			}
			off, e := l.Append(items...)
			if e == api.OK && off != end(all) {
				t.Fatal(off, end(all))
			}
			if e == api.OK || e == api.ErrPower {
				for _, x := range items {
					all = append(all, api.Entry{Base: end(all), N: x.N, Text: x.Text})
				}
			}
			if r.Intn(4) == 0 {
				l.Sync()
			}
			if e != api.ErrPower && r.Intn(15) > 0 {
				continue
			}
			sure := l.Sure()
			var keep []int
			for range d.Files() {
				keep = append(keep, r.Intn(1500))
			}
			d.Crash(keep...)
			l = open(t, d, "log")
			got := fetch(t, l, r)
			if l.Next() < sure || len(got) > len(all) || !slices.Equal(got, all[:len(got)]) || l.Next() != end(got) {
				t.Fatalf("%d of %d entries, sure up to %d, next %d", len(got), len(all), sure, l.Next())
			}
			all = got
		}
	}
}

func end(l []api.Entry) int {
	if len(l) == 0 {
		return 0
	}
	return l[len(l)-1].Base + l[len(l)-1].N
}

// fetch reads a whole log.
func fetch(t *testing.T, l *seglog.Log, r *rand.Rand) []api.Entry {
	var all []api.Entry
	for off := l.First(); off < l.Next(); off = end(all) {
		got, e := l.Fetch(off, 1+r.Intn(api.MaxMost))
		if e != api.OK || len(got) == 0 {
			t.Fatal(got, e)
		}
		all = append(all, got...)
	}
	return all
}
