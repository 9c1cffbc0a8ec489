package sessions_test

import (
	"math"
	"math/rand"
	"reflect"
	"slices"
	"sort"
	"testing"

	"headgate/api"
	"headgate/fold"
	"headgate/sessions"
)

func span(key int, times ...int) api.Span {
	s := api.Span{Key: key}
	for _, t := range times {
		s.L = append(s.L, api.Event{Time: t, V: t})
	}
	return s
}

// same compares sessions; nil and empty lists are alike.
func same(a, b []api.Span) bool {
	return slices.EqualFunc(a, b, func(x, y api.Span) bool { return x.Key == y.Key && slices.Equal(x.L, y.L) })
}

// add adds events of a key whose values are their times.
func add(t *testing.T, g api.Gaps, f api.Flow, key int, times ...int) (api.Flow, []api.Span) {
	t.Helper()
	var all []api.Span
	for _, at := range times {
		next, over, e := sessions.Add(g, f, key, api.Event{Time: at, V: at})
		if e != api.OK || sessions.Check(g, next) != api.OK {
			t.Fatal(at, e, next)
		}
		f = next
		all = append(all, over...)
	}
	return f, all
}

func TestExamples(t *testing.T) {
	f := sessions.Zero()
	if !reflect.DeepEqual(f, api.Flow{Mark: -1}) || sessions.Check(api.Gaps{}, f) != api.OK {
		t.Error(f)
	}
	g := api.Gaps{Gap: 5, Late: 5}
	f, over := add(t, g, f, 1, 10, 20, 15)
	if !same(f.L, []api.Span{span(1, 10, 15, 20)}) || len(over) != 0 || f.Mark != 20 || f.Late != 0 {
		t.Error(f, over)
	}
	f, over = add(t, g, f, 1, 31)
	if !same(f.L, []api.Span{span(1, 31)}) || !same(over, []api.Span{span(1, 10, 15, 20)}) || f.Mark != 31 {
		t.Error(f, over)
	}
	g.Late = 6
	f, over = add(t, g, sessions.Zero(), 1, 10, 20, 3, 15, 32, 8)
	if f.Late != 2 || !same(over, []api.Span{span(1, 10, 15, 20)}) {
		t.Error(f, over)
	}
}

func TestAdd(t *testing.T) {
	g := api.Gaps{Gap: 5, Late: 100}
	// Keys are apart; sessions stand by their first times, then by their keys.
	f, _ := add(t, g, sessions.Zero(), 2, 10)
	f, _ = add(t, g, f, 1, 10, 16, 4)
	f, _ = add(t, g, f, 3, 9)
	if w := []api.Span{span(1, 4), span(3, 9), span(1, 10), span(2, 10), span(1, 16)}; !same(f.L, w) {
		t.Error(f.L)
	}
	// One event joins two sessions, at most Gap from each.
	f, _ = add(t, g, f, 1, 13, 7)
	if w := []api.Span{span(1, 4, 7, 10, 13, 16), span(3, 9), span(2, 10)}; !same(f.L, w) {
		t.Error(f.L)
	}
	// Events of a time stand by their values, as often as they come.
	for _, v := range []int{5, math.MinInt, 5, math.MaxInt} {
		f, _, _ = sessions.Add(g, f, 3, api.Event{Time: 9, V: v})
	}
	if l := f.L[1].L; !slices.Equal(l, []api.Event{{Time: 9, V: math.MinInt}, {Time: 9, V: 5}, {Time: 9, V: 5}, {Time: 9, V: 9}, {Time: 9, V: math.MaxInt}}) {
		t.Error(l)
	}
	// With a gap of 0, events of one time belong together alone.
	f, over := add(t, api.Gaps{}, sessions.Zero(), 1, 5, 5, 6)
	if !same(f.L, []api.Span{span(1, 6)}) || !same(over, []api.Span{span(1, 5, 5)}) {
		t.Error(f, over)
	}
	f, over = add(t, api.Gaps{Late: 1}, sessions.Zero(), 1, 5, 6, 5)
	if !same(f.L, []api.Span{span(1, 5, 5), span(1, 6)}) || len(over) != 0 {
		t.Error(f, over)
	}
	// At the end of all times.
	f, over = add(t, api.Gaps{Gap: sessions.Limit, Late: sessions.Limit}, sessions.Zero(), api.MaxKey, 0, api.MaxNum)
	if !same(f.L, []api.Span{span(api.MaxKey, api.MaxNum)}) || !same(over, []api.Span{span(api.MaxKey, 0)}) {
		t.Error(f, over)
	}
}

func TestExpired(t *testing.T) {
	g := api.Gaps{Gap: 5, Late: 6}
	f, _ := add(t, g, sessions.Zero(), 1, 20)
	g2, over := add(t, g, f, 2, 31)
	if len(over) != 0 || len(g2.L) != 2 {
		t.Error(g2, over)
	}
	g2, over = add(t, g, f, 2, 32)
	if !same(over, []api.Span{span(1, 20)}) || len(g2.L) != 1 {
		t.Error(g2, over)
	}
	// An event at a time that has expired is dropped, even if a session is there for it.
	f, _ = add(t, g, sessions.Zero(), 1, 20, 24, 28, 32)
	f, over = add(t, g, f, 1, 20)
	if f.Late != 1 || len(f.L[0].L) != 4 || len(over) != 0 {
		t.Error(f, over)
	}
	f, _ = add(t, g, f, 1, 21)
	if f.Late != 1 || len(f.L[0].L) != 5 {
		t.Error(f)
	}
}

func TestTooMany(t *testing.T) {
	g := api.Gaps{Gap: 5, Late: 1000}
	f := sessions.Zero()
	for range 64 {
		f, _ = add(t, g, f, 1, 50)
	}
	f, _ = add(t, g, f, 1, 51)
	if f.Late != 1 || len(f.L[0].L) != 64 || f.Mark != 51 { // it is dropped, and the watermark goes on
		t.Error(f)
	}
	// Two sessions of 32 events are one with 65.
	f = sessions.Zero()
	for range 32 {
		f, _ = add(t, g, f, 1, 50, 60)
	}
	f, _ = add(t, g, f, 1, 55)
	if f.Late != 1 || len(f.L) != 2 {
		t.Error(f)
	}
	f = sessions.Zero()
	for k := range 64 {
		f, _ = add(t, g, f, k, 50)
	}
	f, _ = add(t, g, f, 64, 50)
	if f.Late != 1 || len(f.L) != 64 {
		t.Error(f)
	}
	f, _ = add(t, g, f, 63, 50)
	if f.Late != 1 || len(f.L[63].L) != 2 {
		t.Error(f)
	}
	// There is no room yet for one that would close the others.
	f, over := add(t, g, f, 64, 5000)
	if f.Late != 2 || len(over) != 64 || len(f.L) != 0 || f.Mark != 5000 {
		t.Error(f.Late, len(over), len(f.L))
	}
}

func TestWrong(t *testing.T) {
	g := api.Gaps{Gap: 5, Late: 6}
	base := func() api.Flow {
		return api.Flow{Mark: 31, Late: 2, L: []api.Span{span(1, 20, 25), span(2, 20), span(1, 31)}}
	}
	if e := sessions.Check(g, base()); e != api.OK {
		t.Fatal(e)
	}
	for i, x := range []func(f *api.Flow){
		func(f *api.Flow) { f.Mark = -2 }, func(f *api.Flow) { f.Mark = api.MaxNum + 1; f.L = nil }, func(f *api.Flow) { f.Mark = 30 }, func(f *api.Flow) { f.Mark = 32 }, func(f *api.Flow) { f.Mark = -1 },
		func(f *api.Flow) { f.Late = -1 }, func(f *api.Flow) { f.Late = api.MaxNum + 1 },
		func(f *api.Flow) { f.L[0].Key = -1 }, func(f *api.Flow) { f.L[0].Key = api.MaxKey + 1 }, func(f *api.Flow) { f.L[0].L = nil },
		func(f *api.Flow) { f.L[0].L[0].Time = -1 }, func(f *api.Flow) { f.L[0].L[0].Time = math.MinInt }, func(f *api.Flow) { f.L[2].L[0].Time = math.MaxInt },
		func(f *api.Flow) { f.L[0].L[0].Time = 19 }, // too far from the next one
		func(f *api.Flow) { f.L[0].L[0], f.L[0].L[1] = f.L[0].L[1], f.L[0].L[0] },
		func(f *api.Flow) { f.L[0].L[1] = api.Event{Time: 20, V: 19} },
		func(f *api.Flow) { f.L[0], f.L[1] = f.L[1], f.L[0] }, func(f *api.Flow) { f.L[1], f.L[2] = f.L[2], f.L[1] },
		func(f *api.Flow) { f.L[1].Key = 1 }, func(f *api.Flow) { f.L[2].L[0].Time = 30 }, func(f *api.Flow) { f.L[1] = f.L[0] },
		func(f *api.Flow) { f.L[0].L = slices.Repeat([]api.Event{{Time: 20}}, 65) },
		func(f *api.Flow) {
			f.L = nil
			for k := range 65 {
				f.L = append(f.L, span(k, 31))
			}
		},
	} {
		f := base()
		x(&f)
		if e := sessions.Check(g, f); e != api.ErrArg {
			t.Errorf("%d: %d", i, e)
		}
		if n, over, e := sessions.Add(g, f, 1, api.Event{Time: 31}); !reflect.DeepEqual(n, api.Flow{}) || over != nil || e != api.ErrArg {
			t.Errorf("%d: %v %d", i, n, e)
		}
	}
	if sessions.Limit != 1048576 {
		t.Error(sessions.Limit)
	}
	for _, g := range []api.Gaps{{Gap: -1}, {Late: -1}, {Gap: sessions.Limit + 1}, {Late: sessions.Limit + 1}, {Gap: math.MinInt, Late: math.MaxInt}} {
		if e := sessions.Check(g, sessions.Zero()); e != api.ErrArg {
			t.Error(g, e)
		}
		if n, _, e := sessions.Add(g, sessions.Zero(), 1, api.Event{}); !reflect.DeepEqual(n, api.Flow{}) || e != api.ErrArg {
			t.Error(g, e)
		}
	}
	full := base()
	full.Late = api.MaxNum
	for _, x := range []struct {
		f    api.Flow
		k, t int
		e    api.Errno
	}{{base(), -1, 31, api.ErrArg}, {base(), api.MaxKey + 1, 31, api.ErrArg}, {base(), 1, -1, api.ErrArg}, {base(), 1, api.MaxNum + 1, api.ErrArg}, {full, 1, 31, api.ErrRange}, {full, 1, -1, api.ErrArg}} {
		if n, over, e := sessions.Add(g, x.f, x.k, api.Event{Time: x.t}); !reflect.DeepEqual(n, api.Flow{}) || over != nil || e != x.e {
			t.Error(x, n, e)
		}
	}
}

func TestResult(t *testing.T) {
	s := api.Span{Key: -9, L: []api.Event{{Time: 5, V: 7}, {Time: -3, V: math.MaxInt}, {Time: 4, V: -1}}}
	if a, b, g := sessions.Result(s); a != 5 || b != 4 || g != fold.All(7, math.MaxInt, -1) {
		t.Error(a, b, g)
	}
	if a, b, g := sessions.Result(api.Span{Key: 3}); a != 0 || b != 0 || g != (api.Agg{}) {
		t.Error(a, b, g)
	}
}

func TestMemory(t *testing.T) {
	g := api.Gaps{Gap: 5, Late: 6}
	f := api.Flow{Mark: 31, L: []api.Span{span(1, 20, 25), span(2, 20), span(1, 31)}}
	f.L[0].L = append(make([]api.Event, 0, 9), f.L[0].L...)
	given := api.Flow{Mark: 31, L: []api.Span{span(1, 20, 25), span(2, 20), span(1, 31)}}
	for _, x := range []struct{ k, t int }{{1, 26}, {3, 26}, {1, 1}, {9, 99}, {1, 36}} {
		n, over, e := sessions.Add(g, f, x.k, api.Event{Time: x.t})
		if e != api.OK {
			t.Fatal(e)
		}
		for _, s := range append(n.L, over...) {
			s.L[0].Time = 77
			_ = append(s.L, api.Event{Time: 66})
		}
		if !reflect.DeepEqual(f, given) || f.L[0].L[:3][2].Time == 66 {
			t.Fatal("the argument is changed")
		}
	}
}

// TestOrder: as long as nothing is dropped or closed, the order of events does not matter.
func TestOrder(t *testing.T) {
	r := rand.New(rand.NewSource(1))
	for range 300 {
		g := api.Gaps{Gap: r.Intn(8), Late: 1000}
		type one struct {
			k int
			e api.Event
		}
		var l []one
		for range 40 {
			l = append(l, one{r.Intn(3), api.Event{Time: r.Intn(150), V: r.Intn(3)}})
		}
		var last api.Flow
		for i := range 4 {
			f := sessions.Zero()
			for _, x := range l {
				next, over, e := sessions.Add(g, f, x.k, x.e)
				if e != api.OK || len(over) > 0 || next.Late > 0 {
					t.Fatal(e, over, next.Late)
				}
				f = next
			}
			if i > 0 && !reflect.DeepEqual(f, last) {
				t.Fatal(f, last)
			}
			last = f
			r.Shuffle(len(l), func(i, j int) { l[i], l[j] = l[j], l[i] })
		}
		// They are what is cut where the gap is too great.
		sort.Slice(l, func(i, j int) bool {
			a, b := l[i], l[j]
			return a.k < b.k || a.k == b.k && (a.e.Time < b.e.Time || a.e.Time == b.e.Time && a.e.V < b.e.V)
		})
		var want []api.Span
		for i, x := range l {
			if i == 0 || l[i-1].k != x.k || x.e.Time-l[i-1].e.Time > g.Gap {
				want = append(want, api.Span{Key: x.k})
			}
			s := &want[len(want)-1]
			s.L = append(s.L, x.e)
		}
		sort.SliceStable(want, func(i, j int) bool { return want[i].L[0].Time < want[j].L[0].Time })
		if !same(last.L, want) {
			t.Fatal(last.L, want)
		}
	}
}

// TestModel: late events are dropped, and sessions closed, as the plainest way has it.
func TestModel(t *testing.T) {
	r := rand.New(rand.NewSource(2))
	for range 300 {
		g := api.Gaps{Gap: r.Intn(6), Late: r.Intn(6)}
		f := sessions.Zero()
		open := map[int][][]int{} // of each key, the times of each session
		late, mark := 0, -1
		for i := range 100 {
			k, at := r.Intn(2), i/2+r.Intn(12)
			next, over, e := sessions.Add(g, f, k, api.Event{Time: at})
			if e != api.OK {
				t.Fatal(e)
			}
			f = next
			if mark >= 0 && at < mark-g.Gap-g.Late {
				late++
			} else {
				one := []int{at}
				var rest [][]int
				for _, s := range open[k] {
					if slices.ContainsFunc(s, func(x int) bool { return max(x-at, at-x) <= g.Gap }) {
						one = append(one, s...)
					} else {
						rest = append(rest, s)
					}
				}
				slices.Sort(one)
				open[k] = append(rest, one)
			}
			mark = max(mark, at)
			var closed []api.Span
			left := 0
			for k := range 2 {
				open[k] = slices.DeleteFunc(open[k], func(s []int) bool {
					gone := s[len(s)-1] < mark-g.Gap-g.Late
					if gone {
						x := api.Span{Key: k}
						for _, at := range s {
							x.L = append(x.L, api.Event{Time: at})
						}
						closed = append(closed, x)
					}
					return gone
				})
				left += len(open[k])
			}
			sort.SliceStable(closed, func(i, j int) bool { return closed[i].L[0].Time < closed[j].L[0].Time })
			if !same(over, closed) || f.Late != late || f.Mark != mark || len(f.L) != left {
				t.Fatal(f, over, closed, late, left)
			}
		}
	}
}
