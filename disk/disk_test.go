package disk_test

import (
	"math"
	"math/rand"
	"slices"
	"sort"
	"strconv"
	"strings"
	"testing"

	"headgate/api"
	"headgate/disk"
)

func fresh(t *testing.T, n int) *disk.Disk {
	t.Helper()
	d, e := disk.New(n)
	if e != api.OK || d == nil {
		t.Fatal(e)
	}
	return d
}

func want(t *testing.T, what string, got, w api.Errno) {
	t.Helper()
	if got != w {
		t.Errorf("%s: %d, not %d", what, got, w)
	}
}

func read(t *testing.T, d *disk.Disk, name, w string) {
	t.Helper()
	if s, e := d.Read(name); s != w || e != api.OK {
		t.Errorf("%s has %q (%d), not %q", name, s, e, w)
	}
}

func TestNew(t *testing.T) {
	for _, n := range []int{0, -1, api.MaxBlocks + 1, math.MaxInt, math.MinInt} {
		if d, e := disk.New(n); d != nil || e != api.ErrArg {
			t.Errorf("New(%d): %d", n, e)
		}
	}
	for _, n := range []int{1, 10, api.MaxBlocks} {
		d := fresh(t, n)
		if d.Free() != n || d.Off() || len(d.Files()) != 0 {
			t.Errorf("New(%d): %d free", n, d.Free())
		}
	}
}

func TestNames(t *testing.T) {
	d := fresh(t, 100)
	want(t, "Append", d.Append("x", "x"), api.OK)
	good := []string{"a", "z", "0", "9", ".", "-", "log.1", strings.Repeat("n", api.MaxName)}
	for _, name := range good {
		want(t, "Append "+name, d.Append(name, "x"), api.OK)
	}
	bad := []string{"", "A", "_", "a b", "a/b", "\x00", "é", "`", "{", strings.Repeat("n", api.MaxName+1)}
	for _, off := range []bool{false, true} {
		if off {
			d.Fuse(0)
			want(t, "Sync", d.Sync("x"), api.ErrPower)
		}
		for _, name := range bad {
			want(t, "Append", d.Append(name, "x"), api.ErrArg)
			want(t, "Sync", d.Sync(name), api.ErrArg)
			want(t, "Truncate", d.Truncate(name, 0), api.ErrArg)
			want(t, "Remove", d.Remove(name), api.ErrArg)
			want(t, "Rename from", d.Rename(name, "x"), api.ErrArg)
			want(t, "Rename to", d.Rename("x", name), api.ErrArg)
			want(t, "Rename none to", d.Rename("none", name), api.ErrArg)
			if s, e := d.Read(name); s != "" || e != api.ErrArg {
				t.Errorf("Read(%q): %d", name, e)
			}
		}
	}
	if len(d.Files()) != len(good)+1 {
		t.Error(d.Files())
	}
}

func TestExamples(t *testing.T) {
	d := fresh(t, 10)
	want(t, "Append", d.Append("log.1", "abc"), api.OK)
	if d.Free() != 9 {
		t.Error(d.Free())
	}
	want(t, "Rename", d.Rename("log.1", "b"), api.OK)
	if _, e := d.Read("log.1"); e != api.ErrNone {
		t.Error(e)
	}
	read(t, d, "b", "abc")

	d = fresh(t, 2)
	want(t, "Append", d.Append("a", strings.Repeat("x", 65)), api.OK)
	if d.Free() != 0 {
		t.Error(d.Free())
	}
	want(t, "Append", d.Append("b", ""), api.ErrFull)
	d.Crash()
	read(t, d, "a", "")
	if d.Free() != 1 {
		t.Error(d.Free())
	}

	d = fresh(t, 9)
	d.Append("a", "xyz")
	d.Sync("a")
	d.Append("a", "pq")
	if l := d.Files(); !slices.Equal(l, []api.File{{Name: "a", Sure: "xyz", Loose: "pq"}}) {
		t.Error(l)
	}
	d.Crash(1)
	read(t, d, "a", "xyzp")
	if l := d.Files(); !slices.Equal(l, []api.File{{Name: "a", Sure: "xyzp"}}) {
		t.Error(l)
	}
}

func TestFull(t *testing.T) {
	d := fresh(t, 3)
	want(t, "a", d.Append("a", strings.Repeat("x", 64)), api.OK)
	want(t, "b", d.Append("b", ""), api.OK)
	want(t, "b", d.Append("b", strings.Repeat("x", 64)), api.OK)
	want(t, "too much", d.Append("b", strings.Repeat("x", 65)), api.ErrFull)
	want(t, "a block", d.Append("b", strings.Repeat("x", 64)), api.OK)
	want(t, "a byte more", d.Append("b", "x"), api.ErrFull)
	want(t, "none more", d.Append("b", ""), api.OK)
	want(t, "c", d.Append("c", ""), api.ErrFull)
	read(t, d, "b", strings.Repeat("x", 128))
	want(t, "Truncate", d.Truncate("b", 64), api.OK)
	want(t, "c", d.Append("c", ""), api.OK)
	want(t, "Rename", d.Rename("c", "a"), api.OK)
	read(t, d, "a", "")
	if d.Free() != 1 {
		t.Error(d.Free())
	}
}

func TestManyFiles(t *testing.T) {
	d := fresh(t, 1000)
	for i := range api.MaxFiles {
		want(t, "a file", d.Append("f"+strconv.Itoa(i), "x"), api.OK)
	}
	want(t, "one more", d.Append("g", "x"), api.ErrFull)
	want(t, "one that is there", d.Append("f7", "x"), api.OK)
	want(t, "Rename", d.Rename("f7", "g"), api.OK)
	want(t, "Remove", d.Remove("g"), api.OK)
	want(t, "one again", d.Append("g", "x"), api.OK)
	if l := d.Files(); len(l) != api.MaxFiles || d.Free() != 1000-api.MaxFiles {
		t.Error(len(l), d.Free())
	}
}

func TestErrors(t *testing.T) {
	d := fresh(t, 9)
	d.Append("a", "12345")
	want(t, "Sync", d.Sync("none"), api.ErrNone)
	want(t, "Truncate", d.Truncate("none", -1), api.ErrNone)
	want(t, "Truncate", d.Truncate("a", 6), api.ErrRange)
	want(t, "Truncate", d.Truncate("a", -1), api.ErrRange)
	want(t, "Truncate", d.Truncate("a", math.MaxInt), api.ErrRange)
	want(t, "Rename", d.Rename("none", "a"), api.ErrNone)
	want(t, "Rename", d.Rename("none", "none"), api.ErrNone)
	want(t, "Remove", d.Remove("none"), api.ErrNone)
	if s, e := d.Read("none"); s != "" || e != api.ErrNone {
		t.Error(s, e)
	}
	want(t, "Rename", d.Rename("a", "a"), api.OK)
	read(t, d, "a", "12345")
	// What the fuse would do comes behind all other errors.
	d.Fuse(0)
	want(t, "Append", d.Append("b", strings.Repeat("x", 64*9)), api.ErrFull)
	want(t, "Sync", d.Sync("none"), api.ErrNone)
	want(t, "Truncate", d.Truncate("a", 6), api.ErrRange)
	want(t, "Remove", d.Remove("A"), api.ErrArg)
	if d.Off() {
		t.Error("the power is off")
	}
	want(t, "Truncate", d.Truncate("a", 2), api.ErrPower)
	if !d.Off() {
		t.Error("the power is on")
	}
	for _, e := range []api.Errno{d.Append("a", "x"), d.Append("b", strings.Repeat("x", 64*9)), d.Sync("none"), d.Truncate("a", 6), d.Rename("none", "b"), d.Remove("none")} {
		want(t, "without power", e, api.ErrPower)
	}
	if s, e := d.Read("a"); s != "" || e != api.ErrPower {
		t.Error(s, e)
	}
	if l := d.Files(); len(l) != 1 || l[0].Loose != "12345" || d.Free() != 8 {
		t.Error(l, d.Free())
	}
}

func TestFuse(t *testing.T) {
	d := fresh(t, 9)
	d.Fuse(1)
	want(t, "Append", d.Append("a", "x"), api.OK)
	want(t, "Append", d.Append("a", "y"), api.ErrPower)
	if l := d.Files(); len(l) != 1 || l[0].Loose != "xy" {
		t.Error(l)
	}
	d.Crash(1)
	read(t, d, "a", "x")
	for range 5 { // the fuse is none again
		want(t, "Append", d.Append("a", "z"), api.OK)
	}
	for _, f := range []func() api.Errno{
		func() api.Errno { return d.Sync("a") },
		func() api.Errno { return d.Truncate("a", 0) },
		func() api.Errno { return d.Rename("a", "b") },
		func() api.Errno { return d.Remove("a") },
	} {
		before := d.Files()
		d.Fuse(0)
		want(t, "an operation", f(), api.ErrPower)
		if !slices.Equal(d.Files(), before) {
			t.Error(d.Files())
		}
		d.Crash(9)
	}
	d.Fuse(0)
	want(t, "a new file", d.Append("new", "abc"), api.ErrPower)
	if l := d.Files(); len(l) != 2 || l[1] != (api.File{Name: "new", Loose: "abc"}) {
		t.Error(l)
	}
	d.Crash(0, 2)
	read(t, d, "new", "ab")
	// All operations count, Read does not.
	d.Fuse(4)
	d.Read("new")
	want(t, "Sync", d.Sync("new"), api.OK)
	want(t, "Truncate", d.Truncate("new", 1), api.OK)
	want(t, "Rename", d.Rename("new", "new"), api.OK)
	want(t, "Remove", d.Remove("new"), api.OK)
	want(t, "Sync", d.Sync("a"), api.ErrPower)
	d.Crash()
	for _, n := range []int{-1, -7, math.MinInt} {
		d.Fuse(3)
		d.Fuse(n)
		for range 5 {
			want(t, "Sync", d.Sync("a"), api.OK)
		}
	}
}

func TestCrash(t *testing.T) {
	d := fresh(t, 20)
	for _, name := range []string{"c", "a", "b"} {
		d.Append(name, "123")
		d.Sync(name)
		d.Append(name, "456")
	}
	d.Crash(-1, math.MaxInt)
	read(t, d, "a", "123")
	read(t, d, "b", "123456")
	read(t, d, "c", "123")
	d.Append("a", "x")
	d.Truncate("a", 2)
	d.Append("a", "yz")
	d.Crash(1, 1, 1, 1, 1)
	read(t, d, "a", "12y")
	d.Crash()
	read(t, d, "a", "12y")
	d.Append("a", "w")
	d.Rename("a", "b")
	d.Crash()
	read(t, d, "b", "12y")
}

func TestCopy(t *testing.T) {
	d := fresh(t, 20)
	d.Append("a", "123")
	d.Sync("a")
	d.Append("a", "456")
	d.Fuse(2)
	c := d.Copy()
	want(t, "Truncate", c.Truncate("a", 1), api.OK)
	want(t, "Append", c.Append("a", "zzz"), api.OK)
	want(t, "Append", c.Append("a", "zzz"), api.ErrPower)
	read(t, d, "a", "123456")
	if !c.Copy().Off() || d.Off() {
		t.Error("power")
	}
	want(t, "Append", d.Append("a", "789"), api.OK)
	want(t, "Remove", d.Remove("a"), api.OK)
	want(t, "Append", d.Append("a", "789"), api.ErrPower)
	if l := c.Files(); len(l) != 1 || l[0] != (api.File{Name: "a", Sure: "1", Loose: "zzzzzz"}) {
		t.Error(l)
	}
	if c.Free() != 19 || c.Copy().Free() != 19 {
		t.Error(c.Free())
	}
}

func TestNil(t *testing.T) {
	for _, d := range []*disk.Disk{nil, {}} {
		d.Fuse(3)
		if d.Append("a", "x") == api.OK || d.Sync("a") == api.OK || d.Free() != 0 || len(d.Files()) != 0 {
			t.Error("a disk that nobody made")
		}
		d.Crash(1)
	}
	var d *disk.Disk
	for _, e := range []api.Errno{d.Append("a", "x"), d.Sync("a"), d.Truncate("a", 0), d.Rename("a", "b"), d.Remove("a")} {
		want(t, "nil", e, api.ErrArg)
	}
	if s, e := d.Read("a"); s != "" || e != api.ErrArg {
		t.Error(s, e)
	}
	if !d.Off() || d.Copy() != nil || d.Files() != nil {
		t.Error("nil")
	}
}

// model is what a disk is to be, in the plainest way.
type model struct {
	blocks, fuse int
	off          bool
	sure, loose  map[string]string
}

func (m *model) used(name string) int {
	if _, ok := m.sure[name]; !ok {
		return 0
	}
	return max(1, (len(m.sure[name])+len(m.loose[name])+63)/64)
}

func (m *model) free() int {
	n := m.blocks
	for name := range m.sure {
		n -= m.used(name)
	}
	return n
}

func (m *model) burnt() bool {
	if m.fuse == 0 {
		m.off = true
		return true
	}
	m.fuse = max(-1, m.fuse-1)
	return false
}

func (m *model) append(name, s string) api.Errno {
	_, ok := m.sure[name]
	need := max(1, (len(m.sure[name])+len(m.loose[name])+len(s)+63)/64) - m.used(name)
	switch {
	case m.off:
		return api.ErrPower
	case need > m.free(), !ok && len(m.sure) == api.MaxFiles:
		return api.ErrFull
	}
	burnt := m.burnt()
	m.sure[name] += ""
	m.loose[name] += s
	if burnt {
		return api.ErrPower
	}
	return api.OK
}

func (m *model) other(kind int, name, to string, n int) api.Errno {
	_, ok := m.sure[name]
	all := m.sure[name] + m.loose[name]
	switch {
	case m.off:
		return api.ErrPower
	case !ok:
		return api.ErrNone
	case kind == 2 && (n < 0 || n > len(all)):
		return api.ErrRange
	case m.burnt():
		return api.ErrPower
	}
	switch kind {
	case 1:
		m.sure[name], m.loose[name] = all, ""
	case 2:
		k := min(n, len(m.sure[name]))
		m.sure[name], m.loose[name] = all[:k], all[k:n]
	case 3:
		sure, loose := m.sure[name], m.loose[name]
		delete(m.sure, name)
		delete(m.loose, name)
		m.sure[to], m.loose[to] = sure, loose
	case 4:
		delete(m.sure, name)
		delete(m.loose, name)
	}
	return api.OK
}

func (m *model) crash(keep []int) {
	for i, f := range m.files() {
		k := 0
		if i < len(keep) {
			k = max(0, min(keep[i], len(f.Loose)))
		}
		m.sure[f.Name], m.loose[f.Name] = f.Sure+f.Loose[:k], ""
	}
	m.off, m.fuse = false, -1
}

func (m *model) files() []api.File {
	var l []api.File
	for name := range m.sure {
		l = append(l, api.File{Name: name, Sure: m.sure[name], Loose: m.loose[name]})
	}
	sort.Slice(l, func(i, j int) bool { return l[i].Name < l[j].Name })
	return l
}

func TestModel(t *testing.T) {
	r := rand.New(rand.NewSource(1))
	for range 300 {
		blocks := 1 + r.Intn(12)
		d := fresh(t, blocks)
		m := &model{blocks: blocks, fuse: -1, sure: map[string]string{}, loose: map[string]string{}}
		for range 120 {
			name, to := string(rune('a'+r.Intn(5))), string(rune('a'+r.Intn(5)))
			s, n := strings.Repeat("x", r.Intn(100)), r.Intn(130)-2
			var got, w api.Errno
			switch kind := r.Intn(9); kind {
			case 0, 5:
				got, w = d.Append(name, s), m.append(name, s)
			case 1:
				got, w = d.Sync(name), m.other(1, name, "", 0)
			case 2:
				got, w = d.Truncate(name, n), m.other(2, name, "", n)
			case 3:
				got, w = d.Rename(name, to), m.other(3, name, to, 0)
			case 4:
				got, w = d.Remove(name), m.other(4, name, "", 0)
			case 6:
				d.Fuse(n % 9)
				m.fuse = max(-1, n%9)
			case 7:
				keep := []int{n, r.Intn(60), r.Intn(9) - 3}
				d.Crash(keep...)
				m.crash(keep)
			case 8:
				d = d.Copy()
			}
			if got != w || d.Off() != m.off || d.Free() != m.free() || !slices.Equal(d.Files(), m.files()) {
				t.Fatalf("%d, not %d; off %v %v; free %d %d; %v %v", got, w, d.Off(), m.off, d.Free(), m.free(), d.Files(), m.files())
			}
		}
	}
}
