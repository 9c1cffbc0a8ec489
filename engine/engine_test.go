package engine_test

import (
	"math"
	"math/rand"
	"reflect"
	"slices"
	"sort"
	"testing"

	"headgate/api"
	"headgate/engine"
	"headgate/fold"
	"headgate/varint"
)

func rec(key, time, v int) api.Record {
	return api.Record{Key: key, Time: time, Text: varint.Put(v)}
}

func cell(key, start int, values ...int) api.Cell {
	return api.Cell{Key: key, Start: start, A: fold.All(values...)}
}

func same(a, b api.State) bool {
	l := slices.Equal(a.L, b.L)
	a.L, b.L = nil, nil
	return l && reflect.DeepEqual(a, b)
}

func run(t *testing.T, g api.Grid, s api.State, l ...api.Record) (api.State, []api.Cell) {
	t.Helper()
	s, over, e := engine.Run(g, s, l...)
	if e != api.OK {
		t.Fatal(e)
	}
	return s, over
}

func TestZero(t *testing.T) {
	if s := engine.Zero(); !same(s, api.State{Mark: -1}) {
		t.Error(s)
	}
	if e := engine.Check(api.Grid{Size: 1, Hop: 1}, engine.Zero()); e != api.OK {
		t.Error(e)
	}
	if e := engine.Check(api.Grid{}, engine.Zero()); e != api.ErrArg {
		t.Error(e)
	}
}

func TestValue(t *testing.T) {
	for _, x := range []struct {
		s  string
		v  int
		ok bool
	}{
		{varint.Put(-5), -5, true}, {varint.Put(math.MinInt), math.MinInt, true}, {"\x00", 0, true}, {"\x0a\x00", 5, false}, {"\x0ax", 5, false},
		{"", 0, false}, {"\x80", 0, false}, {"\x80\x00", 0, false}, {"\xff\xff", 0, false},
	} {
		if v, ok := engine.Value(api.Record{Key: -1, Time: -1, Text: x.s}); v != x.v || ok != x.ok {
			t.Errorf("Value(%x) = %d %v", x.s, v, ok)
		}
	}
}

func TestExamples(t *testing.T) {
	g := api.Grid{Size: 10, Hop: 10}
	s, over := run(t, g, engine.Zero(), rec(1, 3, 5), rec(1, 12, 7), rec(1, 4, 9))
	if !slices.Equal(over, []api.Cell{cell(1, 0, 5)}) || !same(s, api.State{Mark: 12, Late: 1, N: 3, L: []api.Cell{cell(1, 10, 7)}}) {
		t.Error(s, over)
	}
	g = api.Grid{Size: 10, Hop: 5, Late: 2}
	s, over = run(t, g, engine.Zero(), rec(1, 3, 5), rec(2, 7, -1), rec(1, 12, 7))
	if !slices.Equal(over, []api.Cell{cell(1, 0, 5), cell(2, 0, -1)}) {
		t.Error(over)
	}
	if !same(s, api.State{Mark: 12, N: 3, L: []api.Cell{cell(1, 5, 7), cell(2, 5, -1), cell(1, 10, 7)}}) {
		t.Error(s)
	}
}

func TestFeed(t *testing.T) {
	g := api.Grid{Size: 10, Hop: 5, Late: 2}
	s, over := run(t, g, engine.Zero())
	if !same(s, engine.Zero()) || len(over) != 0 {
		t.Error(s, over)
	}
	s, over = run(t, g, s, api.Record{Key: 1, Time: 900, Text: "\x00\x00"})
	if !same(s, api.State{Mark: -1, Bad: 1, N: 1}) || len(over) != 0 {
		t.Error(s, over) // a bad record does not move the watermark
	}
	s, _ = run(t, g, s, rec(1, 16, 1))
	if !same(s, api.State{Mark: 16, Bad: 1, N: 2, L: []api.Cell{cell(1, 10, 1), cell(1, 15, 1)}}) {
		t.Error(s)
	}
	// At 9 the window 0 is closed, and 5 is not: it is counted there alone.
	s, _ = run(t, g, s, rec(1, 9, 2))
	if !same(s, api.State{Mark: 16, Bad: 1, N: 3, L: []api.Cell{cell(1, 5, 2), cell(1, 10, 1), cell(1, 15, 1)}}) {
		t.Error(s)
	}
	s, _ = run(t, g, s, rec(1, 4, 2))
	if s.Late != 1 || s.Mark != 16 || len(s.L) != 3 || s.N != 4 {
		t.Error(s)
	}
	s, over = run(t, g, s, rec(0, 17, 3))
	if !slices.Equal(over, []api.Cell{cell(1, 5, 2)}) || !slices.Equal(s.L, []api.Cell{cell(0, 10, 3), cell(1, 10, 1), cell(0, 15, 3), cell(1, 15, 1)}) {
		t.Error(s, over)
	}
	s, over = run(t, g, s, rec(2, api.MaxNum, 3))
	if len(over) != 4 || over[0] != cell(0, 10, 3) || over[3] != cell(1, 15, 1) || s.Mark != api.MaxNum || len(s.L) != 2 {
		t.Error(s, over)
	}
}

func TestTooMany(t *testing.T) {
	g := api.Grid{Size: 10, Hop: 5, Late: 5}
	s := engine.Zero()
	for k := range 31 {
		s, _ = run(t, g, s, rec(k, 10, 1))
	}
	s, _ = run(t, g, s, rec(99, 4, 1)) // one window
	if len(s.L) != 63 || s.Late != 0 {
		t.Fatal(len(s.L), s.Late)
	}
	full := s
	s, over := run(t, g, s, rec(50, 14, 1)) // two more are one too many, and the watermark goes on all the same
	if len(s.L) != 63 || s.Late != 1 || s.Mark != 14 || len(over) != 0 {
		t.Error(len(s.L), s.Late, s.Mark)
	}
	// There is no room yet for what would take the place of windows that are closed by it.
	s, over = run(t, g, full, rec(50, 40, 1))
	if len(over) != 63 || s.Late != 1 || s.Mark != 40 || len(s.L) != 0 {
		t.Error(len(s.L), s.Late, s.Mark, len(over))
	}
	s, _ = run(t, g, full, rec(3, 12, 1), rec(98, 3, 1))
	if len(s.L) != 64 || s.Late != 0 {
		t.Error(len(s.L), s.Late)
	}
	if s, _ = run(t, g, s, rec(97, 3, 1)); len(s.L) != 64 || s.Late != 1 {
		t.Error(len(s.L), s.Late)
	}
}

func TestWrong(t *testing.T) {
	g := api.Grid{Size: 10, Hop: 5, Late: 2}
	good := api.State{Mark: 16, Late: 1, Bad: 2, N: 9, L: []api.Cell{cell(1, 5, 2), cell(1, 10, 1), cell(2, 10, 1), cell(1, 15, 1)}}
	for i, f := range []func(s *api.State){
		func(s *api.State) { s.Mark = -2 },
		func(s *api.State) { s.Mark = -1 },
		func(s *api.State) { s.Mark = api.MaxNum + 1; s.L = nil },
		func(s *api.State) { s.Mark = 17 },
		func(s *api.State) { s.Mark = 14 },
		func(s *api.State) { s.Late = -1 },
		func(s *api.State) { s.Bad = -1 },
		func(s *api.State) { s.Bad = 9 },
		func(s *api.State) { s.Late = math.MaxInt; s.Bad = math.MaxInt },
		func(s *api.State) { s.N = 2 },
		func(s *api.State) { s.N = api.MaxNum + 1 },
		func(s *api.State) { s.L[0].Key = -1 },
		func(s *api.State) { s.L[0].Key = api.MaxKey + 1 },
		func(s *api.State) { s.L[0].Start = -5 },
		func(s *api.State) { s.L[0].Start = 6 },
		func(s *api.State) { s.L[0].Start = 0 },
		func(s *api.State) { s.L[3].Start = 20 },
		func(s *api.State) { s.L[0].A.Count = 0 },
		func(s *api.State) { s.L[0].A = api.Agg{} },
		func(s *api.State) { s.L[1], s.L[2] = s.L[2], s.L[1] },
		func(s *api.State) { s.L[1] = s.L[2] },
		func(s *api.State) { s.L[1] = s.L[0] },
		func(s *api.State) { s.L[0], s.L[1] = s.L[1], s.L[0] },
		func(s *api.State) { s.L[0], s.L[3] = s.L[3], s.L[0] },
		func(s *api.State) {
			s.L = nil
			for k := range 65 {
				s.L = append(s.L, cell(k, 10, 1))
			}
		},
	} {
		s := good
		s.L = slices.Clone(good.L)
		f(&s)
		_, over, e := engine.Feed(g, s, rec(1, 12, 1))
		if engine.Check(g, s) != api.ErrArg || over != nil || e != api.ErrArg {
			t.Errorf("%d: %d", i, e)
		}
		got, over, e := engine.Run(g, s)
		if !same(got, api.State{}) || over != nil || e != api.ErrArg {
			t.Errorf("%d: %d", i, e)
		}
	}
	if e := engine.Check(g, good); e != api.OK {
		t.Error(e)
	}
	for _, r := range []api.Record{rec(-1, 12, 1), rec(api.MaxKey+1, 12, 1), rec(1, -1, 1), rec(1, api.MaxNum+1, 1), {Key: -1, Text: "bad"}} {
		got, over, e := engine.Feed(g, good, r)
		if !same(got, api.State{}) || over != nil || e != api.ErrArg {
			t.Error(r, e)
		}
		got, over, e = engine.Run(g, good, rec(1, 40, 1), r)
		if !same(got, api.State{}) || over != nil || e != api.ErrArg {
			t.Error(r, e)
		}
	}
	s := good
	s.N = api.MaxNum
	for _, r := range []api.Record{rec(1, 12, 1), {Text: "bad"}} {
		if got, _, e := engine.Feed(g, s, r); !same(got, api.State{}) || e != api.ErrRange {
			t.Error(e)
		}
	}
	if _, _, e := engine.Feed(g, s, rec(-1, 12, 1)); e != api.ErrArg {
		t.Error(e)
	}
	s.N--
	if _, _, e := engine.Run(g, s, rec(1, 12, 1), rec(1, 12, 1)); e != api.ErrRange {
		t.Error(e)
	}
	if got, _, e := engine.Feed(g, s, rec(api.MaxKey, 12, 1)); got.N != api.MaxNum || e != api.OK {
		t.Error(got, e)
	}
}

func TestMemory(t *testing.T) {
	g := api.Grid{Size: 10, Hop: 5, Late: 2}
	s := api.State{Mark: 16, N: 9, L: make([]api.Cell, 1, 9)}
	s.L[0] = cell(1, 10, 1)
	given := slices.Clone(s.L[:9])
	engine.Feed(g, s, rec(1, 12, 1))
	engine.Run(g, s, rec(1, 12, 1), rec(0, 16, 1), rec(0, 60, 1))
	got, _, _ := engine.Run(g, s)
	got.L[0].Key = 9
	got, _, _ = engine.Feed(g, s, api.Record{Text: "bad"})
	got.L[0].Key = 9
	if !slices.Equal(s.L[:9], given) {
		t.Error(s.L[:9])
	}
}

// TestModel puts records together in the plainest way.
func TestModel(t *testing.T) {
	r := rand.New(rand.NewSource(1))
	for range 300 {
		hop := 1 + r.Intn(4)
		g := api.Grid{Size: hop * (1 + r.Intn(4)), Hop: hop, Late: r.Intn(6)}
		sorted := r.Intn(3) == 0
		var l []api.Record
		for i := range 80 {
			at := i/3 + r.Intn(20)
			if sorted {
				at = i / 3
			}
			l = append(l, rec(r.Intn(2), at, r.Intn(200)-50))
		}
		values := map[[2]int][]int{}
		mark, late := -1, 0
		var want []api.Cell
		gone := map[[2]int]bool{}
		for _, x := range l {
			counted := 0
			v, _ := engine.Value(x)
			for start := 0; start <= x.Time; start += g.Hop {
				if x.Time < start+g.Size && start+g.Size+g.Late > mark {
					k := [2]int{start, x.Key}
					values[k] = append(values[k], v)
					counted++
				}
			}
			if counted == 0 {
				late++
			}
			if sorted && x.Time >= g.Size && counted != g.Size/g.Hop {
				t.Fatal("a record is missing in a window")
			}
			mark = max(mark, x.Time)
			var over []api.Cell
			for k, vs := range values {
				if k[0]+g.Size+g.Late <= mark && !gone[k] {
					gone[k] = true
					over = append(over, cell(k[1], k[0], vs...))
				}
			}
			sort.Slice(over, func(i, j int) bool {
				return over[i].Start < over[j].Start || over[i].Start == over[j].Start && over[i].Key < over[j].Key
			})
			want = append(want, over...)
		}
		s, over := run(t, g, engine.Zero(), l...)
		if !slices.Equal(over, want) || s.Late != late || s.Mark != mark || s.N != len(l) || len(s.L)+len(over) != len(values) {
			t.Fatal(s, over, want)
		}
		for _, c := range s.L {
			if c != cell(c.Key, c.Start, values[[2]int{c.Start, c.Key}]...) {
				t.Fatal(c)
			}
		}
		// In several calls it is the same.
		k := r.Intn(len(l))
		a, first := run(t, g, engine.Zero(), l[:k]...)
		b, second := run(t, g, a, l[k:]...)
		if !same(b, s) || !slices.Equal(append(first, second...), over) || engine.Check(g, a) != api.OK {
			t.Fatal(a, b, s)
		}
	}
}
