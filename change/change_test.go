package change_test

import (
	"math"
	"math/rand"
	"reflect"
	"slices"
	"strings"
	"testing"

	"headgate/api"
	"headgate/change"
	"headgate/engine"
	"headgate/fold"
	"headgate/varint"
)

func cell(key, start int, values ...int) api.Cell {
	return api.Cell{Key: key, Start: start, A: fold.All(values...)}
}

func there(c api.Cell) api.Record {
	s, _ := fold.Encode(c.A)
	return api.Record{Key: c.Key, Time: c.Start, Text: "\x02" + s}
}

func gone(key, start int) api.Record {
	return api.Record{Key: key, Time: start, Text: "\x04"}
}

func same(a, b api.State) bool {
	l := slices.Equal(a.L, b.L)
	a.L, b.L = nil, nil
	return l && reflect.DeepEqual(a, b)
}

func TestDiff(t *testing.T) {
	a, b, c, d := cell(1, 0, 5), cell(2, 0, 6), cell(1, 10, 7), cell(1, 20, 8)
	b2 := cell(2, 0, 6, 6)
	bad := api.Cell{Key: -4, Start: -7}
	one := api.State{Mark: 3, N: 1, L: []api.Cell{a}}
	for i, x := range []struct {
		old, now api.State
		w        []api.Record
	}{
		{one, one, nil},
		{engine.Zero(), engine.Zero(), nil},
		{engine.Zero(), one, []api.Record{{Text: "\x00\x06\x00\x00\x02"}, there(a)}},
		{api.State{}, api.State{Mark: -1}, []api.Record{{Text: varint.PutAll(0, -1, 0, 0, 0)}}},
		{api.State{}, api.State{Late: math.MinInt}, []api.Record{{Text: varint.PutAll(0, 0, math.MinInt, 0, 0)}}},
		{api.State{}, api.State{Bad: 4}, []api.Record{{Text: varint.PutAll(0, 0, 0, 4, 0)}}},
		{api.State{}, api.State{N: 5}, []api.Record{{Text: varint.PutAll(0, 0, 0, 0, 5)}}},
		{api.State{L: []api.Cell{a, b, d}}, api.State{L: []api.Cell{b2, c, d}}, []api.Record{gone(1, 0), there(b2), there(c)}},
		{api.State{L: []api.Cell{a, b, c, d}}, api.State{}, []api.Record{gone(1, 0), gone(2, 0), gone(1, 10), gone(1, 20)}},
		{api.State{}, api.State{L: []api.Cell{a, b, c, d}}, []api.Record{there(a), there(b), there(c), there(d)}},
		{api.State{L: []api.Cell{d, a}}, api.State{L: []api.Cell{a, d}}, []api.Record{there(a), gone(1, 0)}}, // in no order
		{api.State{}, api.State{L: []api.Cell{bad, bad}}, []api.Record{{Key: -4, Time: -7, Text: "\x02"}, {Key: -4, Time: -7, Text: "\x02"}}},
	} {
		if l := change.Diff(x.old, x.now); !slices.Equal(l, x.w) {
			t.Errorf("%d: %v, not %v", i, l, x.w)
		}
	}
}

func TestApply(t *testing.T) {
	a, b, c := cell(1, 0, 5), cell(2, 0, 6), cell(1, 10, 7)
	a2 := cell(1, 0, 5, 5)
	s := api.State{Mark: 3, Late: 1, Bad: 2, N: 9, L: []api.Cell{a, c}}
	with := func(l ...api.Cell) api.State { return api.State{Mark: 3, Late: 1, Bad: 2, N: 9, L: l} }
	mixed := with(c, a)
	for i, x := range []struct {
		s api.State
		r api.Record
		w api.State
	}{
		{s, api.Record{Text: varint.PutAll(0, -7, 8, math.MaxInt, -1)}, api.State{Mark: -7, Late: 8, Bad: math.MaxInt, N: -1, L: []api.Cell{a, c}}},
		{s, there(b), with(a, b, c)},
		{s, there(a2), with(a2, c)},
		{s, there(cell(0, 0, 1)), with(cell(0, 0, 1), a, c)},
		{s, there(cell(2, 10, 1)), with(a, c, cell(2, 10, 1))},
		{s, there(cell(-2, -10, 1)), with(cell(-2, -10, 1), a, c)},
		{s, gone(1, 0), with(c)},
		{s, gone(1, 10), with(a)},
		// In a list that is in no order, the first window that does not precede another one is the place.
		{mixed, there(a2), with(a2, c, a)},
		{mixed, there(b), with(b, c, a)},
		{mixed, gone(1, 10), with(a)},
	} {
		given := slices.Clone(x.s.L)
		got, e := change.Apply(x.s, x.r)
		if !same(got, x.w) || e != api.OK {
			t.Errorf("%d: %v %d, not %v", i, got, e, x.w)
		}
		for k := range got.L {
			got.L[k].Key = 77
		}
		if !slices.Equal(x.s.L, given) {
			t.Errorf("%d: the argument is now %v", i, x.s.L)
		}
	}
	agg := there(a).Text
	for i, r := range []api.Record{
		{}, {Text: "\x80"}, {Text: "\x06"}, {Text: "\x01"}, {Text: "\x00"},
		{Text: varint.PutAll(0, 1, 2, 3)}, {Text: varint.PutAll(0, 1, 2, 3, 4, 5)}, {Text: varint.PutAll(0, 1, 2, 3) + "\x80"},
		{Key: 1, Text: varint.PutAll(0, 1, 2, 3, 4)}, {Time: 1, Text: varint.PutAll(0, 1, 2, 3, 4)},
		{Text: "\x02"}, {Key: 1, Text: agg + "\x00"}, {Key: 1, Text: agg[:len(agg)-1]}, {Key: 1, Text: "\x82\x00" + agg[1:]},
		gone(1, 5), gone(2, 0), gone(0, 10), {Key: 1, Text: "\x04\x00"}, {Key: 1, Text: "\x84\x00"},
	} {
		if got, e := change.Apply(s, r); !same(got, api.State{}) || e != api.ErrForm {
			t.Errorf("%d: %v %d", i, got, e)
		}
	}
	if got, e := change.Apply(mixed, gone(1, 0)); !same(got, api.State{}) || e != api.ErrForm {
		t.Error(got, e)
	}
}

func TestRestore(t *testing.T) {
	g := api.Grid{Size: 10, Hop: 10}
	if s, e := change.Restore(g); !same(s, engine.Zero()) || e != api.OK {
		t.Error(s, e)
	}
	counters := api.Record{Text: varint.PutAll(0, 3, 0, 0, 1)}
	if s, e := change.Restore(g, counters, there(cell(1, 0, 5))); !same(s, api.State{Mark: 3, N: 1, L: []api.Cell{cell(1, 0, 5)}}) || e != api.OK {
		t.Error(s, e)
	}
	for i, l := range [][]api.Record{
		{there(cell(1, 0, 5))}, // Mark -1
		{counters, there(cell(1, 5, 5))},
		{counters, gone(1, 0)},
		{{}},
		{{Text: varint.PutAll(0, -2, 0, 0, 0)}},
		{{Text: varint.PutAll(0, 20, 0, 0, 1)}, there(cell(1, 0, 5))},
		{counters, {Text: "\x02"}, there(cell(1, 0, 5))},
	} {
		if s, e := change.Restore(g, l...); !same(s, api.State{}) || e != api.ErrForm {
			t.Errorf("%d: %v %d", i, s, e)
		}
	}
	if s, e := change.Restore(api.Grid{}); !same(s, api.State{}) || e != api.ErrForm {
		t.Error(s, e)
	}
}

func TestOut(t *testing.T) {
	c := cell(api.MaxKey, api.MaxNum, 5, -7)
	s, _ := fold.Encode(c.A)
	r, e := change.Out(c)
	if r != (api.Record{Key: api.MaxKey, Time: api.MaxNum, Text: s}) || e != api.OK {
		t.Error(r, e)
	}
	if got, e := change.In(r); got != c || e != api.OK {
		t.Error(got, e)
	}
	for i, c := range []api.Cell{cell(-1, 0, 5), cell(api.MaxKey+1, 0, 5), cell(1, -1, 5), cell(1, api.MaxNum+1, 5), cell(1, 1), {}} {
		if r, e := change.Out(c); r != (api.Record{}) || e != api.ErrArg {
			t.Errorf("%d: %v %d", i, r, e)
		}
		s, _ := fold.Encode(c.A)
		if got, e := change.In(api.Record{Key: c.Key, Time: c.Start, Text: s}); got != (api.Cell{}) || e != api.ErrForm {
			t.Errorf("%d: %v %d", i, got, e)
		}
	}
	for _, text := range []string{"x", "", s + "\x00", s[1:]} {
		if got, e := change.In(api.Record{Text: text}); got != (api.Cell{}) || e != api.ErrForm {
			t.Errorf("%q: %v %d", text, got, e)
		}
	}
}

// grids are some windows; states are what an engine has behind each of some records.
func states(r *rand.Rand, n int) (api.Grid, []api.State, []api.Cell) {
	hop := 1 + r.Intn(4)
	g := api.Grid{Size: hop * (1 + r.Intn(4)), Hop: hop, Late: r.Intn(6)}
	l := []api.State{engine.Zero()}
	var over []api.Cell
	for i := range n {
		x := api.Record{Key: r.Intn(3), Time: i/2 + r.Intn(12), Text: varint.Put(r.Intn(300) - 100)}
		if r.Intn(9) == 0 {
			x.Text = strings.Repeat("?", r.Intn(3))
		}
		s, some, _ := engine.Feed(g, l[len(l)-1], x)
		l = append(l, s)
		over = append(over, some...)
	}
	return g, l, over
}

// TestDiffApply: the changes from one state to another one lead there, and there are not too many of them.
func TestDiffApply(t *testing.T) {
	r := rand.New(rand.NewSource(1))
	for range 200 {
		g, l, _ := states(r, 40)
		for range 40 {
			old, now := l[r.Intn(len(l))], l[r.Intn(len(l))]
			diff := change.Diff(old, now)
			s := old
			for _, x := range diff {
				var e api.Errno
				if s, e = change.Apply(s, x); e != api.OK {
					t.Fatal(e)
				}
			}
			if !same(s, now) {
				t.Fatal(s, now)
			}
			changed := 0
			for _, c := range old.L {
				if !slices.Contains(now.L, c) {
					changed++
				}
			}
			for _, c := range now.L {
				if !slices.ContainsFunc(old.L, func(o api.Cell) bool { return o.Key == c.Key && o.Start == c.Start }) {
					changed++
				}
			}
			if len(diff) > changed+1 {
				t.Fatal(len(diff), changed)
			}
		}
		// All changes, one behind the other, restore the last state.
		var all []api.Record
		for i := 1; i < len(l); i++ {
			all = append(all, change.Diff(l[i-1], l[i])...)
		}
		if s, e := change.Restore(g, all...); !same(s, l[len(l)-1]) || e != api.OK {
			t.Fatal(s, e)
		}
	}
}
