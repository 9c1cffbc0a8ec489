package cleaner_test

import (
	"math"
	"math/rand"
	"reflect"
	"slices"
	"strings"
	"testing"

	"headgate/api"
	"headgate/batch"
	"headgate/change"
	"headgate/cleaner"
	"headgate/crc"
	"headgate/disk"
	"headgate/engine"
	"headgate/fold"
	"headgate/varint"
)

func counters(off, n int) api.Got {
	return api.Got{Off: off, R: api.Record{Text: varint.PutAll(0, n, 0, 0, n)}}
}

func there(off, key, start int) api.Got {
	s, _ := fold.Encode(fold.All(off))
	return api.Got{Off: off, R: api.Record{Key: key, Time: start, Text: "\x02" + s}}
}

func gone(off, key, start int) api.Got {
	return api.Got{Off: off, R: api.Record{Key: key, Time: start, Text: "\x04"}}
}

func TestClean(t *testing.T) {
	l := []api.Got{counters(0, 1), there(1, 1, 0), counters(2, 2), there(3, 1, 0)}
	odd := func(off int, text string) api.Got { return api.Got{Off: off, R: api.Record{Text: text}} }
	for i, x := range []struct {
		l    []api.Got
		upto int
		w    []api.Got
	}{
		{l, 4, l[2:]}, {l, 3, l[1:]}, {l, 2, l}, {l, 0, l}, {l, -1, l}, {l, math.MinInt, l}, {l, math.MaxInt, l[2:]}, {nil, 4, nil},
		{[]api.Got{there(0, 1, 0), there(1, 2, 0), there(2, 1, 5), there(3, 1, 0)}, 9, []api.Got{there(1, 2, 0), there(2, 1, 5), there(3, 1, 0)}},
		// A removal goes, with all that is ahead of it.
		{[]api.Got{there(0, 1, 0), gone(1, 1, 0)}, 2, nil},
		{[]api.Got{there(0, 1, 0), gone(1, 1, 0)}, 1, []api.Got{there(0, 1, 0), gone(1, 1, 0)}},
		{[]api.Got{there(0, 1, 0), gone(1, 1, 0), there(2, 1, 0)}, 3, []api.Got{there(2, 1, 0)}},
		{[]api.Got{there(0, 1, 0), gone(1, 1, 0), there(2, 1, 0)}, 2, []api.Got{there(2, 1, 0)}},
		{[]api.Got{gone(1, 1, 0), gone(2, 1, 0)}, 2, []api.Got{gone(2, 1, 0)}},
		// What begins like a change concerns something, whatever is behind it.
		{[]api.Got{odd(0, "\x00"), odd(1, "\x00xyz")}, 9, []api.Got{odd(1, "\x00xyz")}},
		{[]api.Got{odd(0, "\x02"), odd(1, "\x04\x00")}, 9, []api.Got{odd(1, "\x04\x00")}},
		{[]api.Got{{R: api.Record{Key: 5, Text: "\x00"}}, {R: api.Record{Time: 7, Text: "\x00"}}}, 9, []api.Got{{R: api.Record{Time: 7, Text: "\x00"}}}},
		{[]api.Got{odd(0, "\x00"), odd(1, "\x02")}, 9, []api.Got{odd(0, "\x00"), odd(1, "\x02")}},
		// The others concern nothing.
		{[]api.Got{odd(0, "\x06"), odd(1, "\x06"), odd(2, ""), odd(3, ""), odd(4, "\x80"), odd(5, "\x01"), odd(6, "\x01")}, 9, []api.Got{odd(0, "\x06"), odd(1, "\x06"), odd(2, ""), odd(3, ""), odd(4, "\x80"), odd(5, "\x01"), odd(6, "\x01")}},
		// The offset counts, not the place.
		{[]api.Got{counters(9, 1), counters(1, 2), counters(8, 3), counters(2, 4)}, 5, []api.Got{counters(9, 1), counters(8, 3), counters(2, 4)}},
		{[]api.Got{counters(-9, 1), counters(-3, 2)}, 0, []api.Got{counters(-3, 2)}},
	} {
		given := slices.Clone(x.l)
		got := cleaner.Clean(x.l, x.upto)
		if !slices.Equal(got, x.w) {
			t.Errorf("%d: %v, not %v", i, got, x.w)
		}
		for k := range got {
			got[k].Off = 77
		}
		if !slices.Equal(x.l, given) {
			t.Errorf("%d: the argument is changed", i)
		}
	}
}

// TestRestore: of what is left the same state is restored.
func TestRestore(t *testing.T) {
	r := rand.New(rand.NewSource(1))
	g := api.Grid{Size: 10, Hop: 5, Late: 3}
	less := 0
	for range 200 {
		s := engine.Zero()
		var all []api.Got
		for i := range 60 {
			x := api.Record{Key: r.Intn(3), Time: i/2 + r.Intn(10), Text: varint.Put(r.Intn(200))}
			next, _, _ := engine.Feed(g, s, x)
			for _, d := range change.Diff(s, next) {
				all = append(all, api.Got{Off: len(all), R: d})
			}
			s = next
		}
		left := cleaner.Clean(all, r.Intn(len(all)+5))
		var records []api.Record
		for _, x := range left {
			records = append(records, x.R)
		}
		got, e := change.Restore(g, records...)
		if e != api.OK || !reflect.DeepEqual(got, s) {
			t.Fatal(e, got, s)
		}
		less += len(all) - len(left)
		if again := cleaner.Clean(left, len(all)+9); len(again) != len(s.L)+1 {
			t.Fatal(again)
		}
	}
	if less < 1000 {
		t.Error(less)
	}
}

func TestFile(t *testing.T) {
	full := make([]api.Got, cleaner.Most)
	long := api.Record{Key: api.MaxKey, Time: api.MaxNum, Text: strings.Repeat("x", 512)}
	for i, x := range []struct {
		l []api.Got
		e api.Errno
	}{
		{nil, api.OK}, {[]api.Got{counters(0, 1), there(1, 1, 0)}, api.OK}, {[]api.Got{{Off: api.MaxNum, R: long}, {Off: 3}, {Off: 3}}, api.OK}, {full, api.OK},
		{append(slices.Clone(full), api.Got{}), api.ErrArg}, {[]api.Got{{Off: -1}}, api.ErrArg}, {[]api.Got{{Off: api.MaxNum + 1}}, api.ErrArg},
		{[]api.Got{{R: api.Record{Key: -1}}}, api.ErrArg}, {[]api.Got{{}, {R: api.Record{Key: api.MaxKey + 1}}}, api.ErrArg}, {[]api.Got{{R: api.Record{Time: -1}}}, api.ErrArg}, {[]api.Got{{R: api.Record{Time: api.MaxNum + 1}}}, api.ErrArg}, {[]api.Got{{R: api.Record{Text: long.Text + "x"}}}, api.ErrArg},
	} {
		raw := varint.Put(len(x.l))
		for _, g := range x.l {
			raw += varint.Put(g.Off) + batch.PutRecord(g.R)
		}
		raw = crc.Seal(raw)
		if e := cleaner.Check(x.l); e != x.e {
			t.Errorf("%d: %d", i, e)
		}
		s, e := cleaner.Encode(x.l)
		if e != x.e || e == api.OK && s != raw || e != api.OK && s != "" {
			t.Errorf("%d: %x %d", i, s, e)
		}
		l, e := cleaner.Decode(raw)
		if x.e == api.OK && (!slices.Equal(l, x.l) || e != api.OK) || x.e != api.OK && (l != nil || e != api.ErrForm) {
			t.Errorf("%d: %v %d", i, l, e)
		}
		d, _ := disk.New(9999)
		if e := cleaner.Save(d, "f", x.l); e != x.e {
			t.Errorf("%d: %d", i, e)
		}
	}
	good, _ := cleaner.Encode([]api.Got{counters(0, 1), there(1, 1, 0)})
	body, _ := crc.Unseal(good)
	for _, s := range []string{"", good[:len(good)-1], good + "\x00", body, crc.Seal(body + "\x00"), crc.Seal(body[:len(body)-1]), crc.Seal(""), crc.Seal(varint.Put(-1)), crc.Seal(varint.Put(4097)), crc.Seal(varint.Put(math.MaxInt))} {
		if l, e := cleaner.Decode(s); l != nil || e != api.ErrForm {
			t.Errorf("%.30x: %v %d", s, l, e)
		}
	}
}

func TestSave(t *testing.T) {
	one, two := []api.Got{counters(0, 1)}, []api.Got{counters(2, 2), there(3, 1, 0)}
	d, _ := disk.New(99)
	for _, name := range []string{"a", "z", "0", "9", "-"} {
		if e := cleaner.Save(d, name, one); e != api.OK || d.Remove(name) != api.OK {
			t.Error(name, e)
		}
	}
	if cleaner.Most != 4096 || cleaner.New != ".new" {
		t.Error(cleaner.Most, cleaner.New)
	}
	for _, name := range []string{"", "a.b", "A", "x_", strings.Repeat("n", 17), "a b", "`", "{", "/", ":"} {
		if e := cleaner.Save(d, name, one); e != api.ErrArg {
			t.Error(name, e)
		}
		if l, e := cleaner.Load(d, name); l != nil || e != api.ErrArg {
			t.Error(name, e)
		}
	}
	if e := cleaner.Save(nil, "a", one); e != api.ErrArg {
		t.Error(e)
	}
	if l, e := cleaner.Load(nil, "a"); l != nil || e != api.ErrArg {
		t.Error(e)
	}
	name := "a-0" + strings.Repeat("n", 13)
	if l, e := cleaner.Load(d, name); l != nil || e != api.ErrNone {
		t.Error(l, e)
	}
	for _, l := range [][]api.Got{one, two, nil} {
		if e := cleaner.Save(d, name, l); e != api.OK {
			t.Error(e)
		}
		if got, e := cleaner.Load(d, name); !slices.Equal(got, l) || e != api.OK {
			t.Error(got, e)
		}
		if f := d.Files(); len(f) != 1 || f[0].Name != name || f[0].Loose != "" {
			t.Error(f)
		}
	}
	d.Append("bad", "torn")
	if l, e := cleaner.Load(d, "bad"); l != nil || e != api.ErrForm {
		t.Error(l, e)
	}
	d.Fuse(0)
	d.Sync("bad")
	if l, e := cleaner.Load(d, name); l != nil || e != api.ErrPower {
		t.Error(l, e)
	}
	if e := cleaner.Save(d, name, one); e != api.ErrPower {
		t.Error(e)
	}
	d, _ = disk.New(1)
	cleaner.Save(d, "f", one)
	if e := cleaner.Save(d, "f", two); e != api.ErrFull {
		t.Error(e)
	}
	if l, e := cleaner.Load(d, "f"); !slices.Equal(l, one) || e != api.OK {
		t.Error(l, e)
	}
}

// TestPower: wherever the power fails, and whatever is kept, a file has what it had, or all of the new.
func TestPower(t *testing.T) {
	one, two := []api.Got{counters(0, 1)}, []api.Got{counters(2, 2), there(3, 1, 0)}
	for _, left := range []bool{false, true} {
		for fuse := range 6 {
			for keep := range 60 {
				d, _ := disk.New(99)
				cleaner.Save(d, "f", one)
				need := 3
				if left {
					d.Append("f.new", "of another time")
					need++
				}
				d.Fuse(fuse)
				e := cleaner.Save(d, "f", two)
				if (e == api.OK) != (fuse >= need) || e != api.OK && e != api.ErrPower {
					t.Fatal(left, fuse, e)
				}
				d.Crash(0, keep)
				want := one
				if e == api.OK {
					want = two
				}
				if l, e := cleaner.Load(d, "f"); !slices.Equal(l, want) || e != api.OK {
					t.Fatal(left, fuse, keep, l, e)
				}
				if e := cleaner.Save(d, "f", two); e != api.OK {
					t.Fatal(e)
				}
			}
		}
	}
}
