package alert_test

import (
	"math"
	"math/rand"
	"slices"
	"testing"

	"headgate/alert"
	"headgate/api"
	"headgate/fold"
	"headgate/lex"
)

func rule(t *testing.T, s string) api.Rule {
	t.Helper()
	r, e := alert.Parse(s)
	if e != api.OK {
		t.Fatal(s, e)
	}
	return r
}

func cells(key int, values ...int) []api.Cell {
	var l []api.Cell
	for i, v := range values {
		l = append(l, api.Cell{Key: key, Start: 10 * i, A: fold.All(v)})
	}
	return l
}

func run(t *testing.T, r api.Rule, l []api.Watch, c ...api.Cell) ([]api.Watch, []api.Call) {
	t.Helper()
	l, calls, e := alert.Run(r, l, c...)
	if e != api.OK {
		t.Fatal(e)
	}
	return l, calls
}

func TestCheck(t *testing.T) {
	good := api.Rule{Field: api.FieldSum, Op: api.OpGt, Limit: 10, For: 2, Clear: 1}
	for i, x := range []struct {
		f func(r *api.Rule)
		e api.Errno
	}{
		{func(r *api.Rule) {}, api.OK},
		{func(r *api.Rule) { r.Field = 0 }, api.ErrArg}, {func(r *api.Rule) { r.Field = 1 }, api.OK}, {func(r *api.Rule) { r.Field = 4 }, api.OK}, {func(r *api.Rule) { r.Field = 5 }, api.ErrArg}, {func(r *api.Rule) { r.Field = math.MinInt }, api.ErrArg},
		{func(r *api.Rule) { r.Op = api.OpNe }, api.ErrArg}, {func(r *api.Rule) { r.Op = api.OpLt }, api.OK}, {func(r *api.Rule) { r.Op = api.OpGe }, api.OK}, {func(r *api.Rule) { r.Op = api.OpAnd }, api.ErrArg}, {func(r *api.Rule) { r.Op = api.OpEq }, api.ErrArg},
		{func(r *api.Rule) { r.Limit = math.MinInt }, api.ErrArg}, {func(r *api.Rule) { r.Limit = math.MinInt + 1 }, api.OK}, {func(r *api.Rule) { r.Limit = math.MaxInt }, api.OK},
		{func(r *api.Rule) { r.For = 0 }, api.ErrArg}, {func(r *api.Rule) { r.For = 1000 }, api.OK}, {func(r *api.Rule) { r.For = 1001 }, api.ErrArg},
		{func(r *api.Rule) { r.Clear = 0 }, api.ErrArg}, {func(r *api.Rule) { r.Clear = 1000 }, api.OK}, {func(r *api.Rule) { r.Clear = 1001 }, api.ErrArg}, {func(r *api.Rule) { r.Clear = -1 }, api.ErrArg},
	} {
		r := good
		x.f(&r)
		if e := alert.Check(r); e != x.e {
			t.Errorf("%d: %d", i, e)
		}
		s, e := alert.Print(r)
		if e != x.e || (e != api.OK) != (s == "") {
			t.Errorf("%d: %q %d", i, s, e)
		}
		if e == api.OK {
			if got, e := alert.Parse(s); got != r || e != api.OK {
				t.Errorf("%d: %q %v %d", i, s, got, e)
			}
			continue
		}
		if alert.Holds(r, fold.All(11)) {
			t.Errorf("%d: it holds", i)
		}
		if l, c, e := alert.Step(r, nil, api.Cell{}); l != nil || c != nil || e != api.ErrArg {
			t.Errorf("%d: %d", i, e)
		}
		if l, c, e := alert.Run(r, nil); l != nil || c != nil || e != api.ErrArg {
			t.Errorf("%d: %d", i, e)
		}
	}
}

func TestText(t *testing.T) {
	for _, x := range []struct {
		s, w string
		r    api.Rule
	}{
		{"alert sum>10 for 2 clear 1", "alert sum > 10 for 2 clear 1", api.Rule{Field: api.FieldSum, Op: api.OpGt, Limit: 10, For: 2, Clear: 1}},
		{"alert max >= -5 for 2 clear 3", "alert max >= -5 for 2 clear 3", api.Rule{Field: api.FieldMax, Op: api.OpGe, Limit: -5, For: 2, Clear: 3}},
		{"alert count < - 0 for 1000 clear 01 # x", "alert count < 0 for 1000 clear 1", api.Rule{Field: api.FieldCount, Op: api.OpLt, For: 1000, Clear: 1}},
		{"alert min<=-9223372036854775807\nfor 1 clear 1000", "alert min <= -9223372036854775807 for 1 clear 1000", api.Rule{Field: api.FieldMin, Op: api.OpLe, Limit: -math.MaxInt, For: 1, Clear: 1000}},
	} {
		r, e := alert.Parse(x.s)
		if r != x.r || e != api.OK {
			t.Errorf("%q: %v %d", x.s, r, e)
		}
		if s, e := alert.Print(r); s != x.w || e != api.OK {
			t.Errorf("%q: %q %d", x.s, s, e)
		}
	}
	for _, x := range []struct {
		s string
		e api.Errno
	}{
		{"alert max > 5 for 1 clear 1001", api.ErrForm}, {"alert max > 5 for 0 clear 1", api.ErrForm}, {"alert max > 5 for 1 clear 1 ;", api.ErrForm}, {"alert max > 5 for 1 clear", api.ErrForm}, {"", api.ErrForm},
		{"alert avg > 5 for 1 clear 1", api.ErrForm}, {"alert max = 5 for 1 clear 1", api.ErrForm}, {"alert max > --5 for 1 clear 1", api.ErrForm}, {"alert max > for 1 clear 1", api.ErrForm}, {"alert max > 5 clear 1 for 1", api.ErrForm},
		{"alarm max > 5 for 1 clear 1", api.ErrForm}, {"alert max > 5 for -1 clear 1", api.ErrForm}, {"alert > 5 for 1 clear 1", api.ErrForm}, {"alert max 5 for 1 clear 1", api.ErrForm},
		{"alert max > 5 for 1 clear ?", api.ErrForm}, {"alert max > 99999999999999999999 for 1 clear 1", api.ErrRange}, {string(make([]byte, 5000)), api.ErrArg},
	} {
		if r, e := alert.Parse(x.s); r != (api.Rule{}) || e != x.e {
			t.Errorf("%q: %v %d", x.s, r, e)
		}
	}
}

func TestRead(t *testing.T) {
	l, _, _ := lex.Cut("alert min < -3 for 4 clear 5 ; more")
	want := api.Rule{Field: api.FieldMin, Op: api.OpLt, Limit: -3, For: 4, Clear: 5}
	if r, n, e := alert.Read(l); r != want || n != 9 || e != api.OK {
		t.Error(r, n, e)
	}
	for k := range 9 {
		if r, n, e := alert.Read(l[:k]); r != (api.Rule{}) || n != 0 || e != api.ErrForm {
			t.Error(k, r, n, e)
		}
		// Each token has to be of its kind.
		for kind := range 5 {
			m := slices.Clone(l)
			if kind == m[k].Kind {
				continue
			}
			m[k].Kind = kind
			if r, n, e := alert.Read(m); r != (api.Rule{}) || n != 0 || e != api.ErrForm {
				t.Error(k, kind, r, n, e)
			}
		}
	}
	// A number is what it is.
	m := slices.Delete(slices.Clone(l), 3, 4)
	m[3].N = -7
	want.Limit = -7
	if r, n, e := alert.Read(m); r != want || n != 8 || e != api.OK {
		t.Error(r, n, e)
	}
	m[3].N = math.MinInt
	if r, n, e := alert.Read(m); r != (api.Rule{}) || n != 0 || e != api.ErrForm {
		t.Error(r, n, e)
	}
	if r, n, e := alert.Read([]api.Token{{Kind: api.TokWord, S: "alert"}, {Kind: api.TokWord}, l[2], l[4], l[5], l[6], l[7], l[8]}); r != (api.Rule{}) || n != 0 || e != api.ErrForm {
		t.Error(r, n, e)
	}
}

func TestHolds(t *testing.T) {
	a := api.Agg{Count: 3, Sum: -10, Min: -20, Max: 7}
	for _, x := range []struct {
		field, op, limit int
		w                bool
	}{
		{api.FieldCount, api.OpLt, 3, false}, {api.FieldCount, api.OpLe, 3, true}, {api.FieldCount, api.OpGt, 2, true}, {api.FieldCount, api.OpGe, 4, false},
		{api.FieldSum, api.OpLt, -9, true}, {api.FieldSum, api.OpGt, -10, false}, {api.FieldSum, api.OpGe, -10, true},
		{api.FieldMin, api.OpLe, -20, true}, {api.FieldMin, api.OpLt, -20, false}, {api.FieldMax, api.OpGe, 7, true}, {api.FieldMax, api.OpGt, 7, false}, {api.FieldMax, api.OpLt, math.MaxInt, true},
	} {
		if w := alert.Holds(api.Rule{Field: x.field, Op: x.op, Limit: x.limit, For: 1, Clear: 1}, a); w != x.w {
			t.Error(x, w)
		}
	}
}

func TestExamples(t *testing.T) {
	_, calls := run(t, rule(t, "alert sum > 10 for 2 clear 1"), nil, cells(1, 11, 5, 12, 13, 3)...)
	if !slices.Equal(calls, []api.Call{{Key: 1, Start: 30, On: true}, {Key: 1, Start: 40}}) {
		t.Error(calls)
	}
	_, calls = run(t, rule(t, "alert max >= -5 for 2 clear 3"), nil, cells(1, -4, -9, 0, 1, 2, -6, -7, 8, -6, -7, -8)...)
	if !slices.Equal(calls, []api.Call{{Key: 1, Start: 30, On: true}, {Key: 1, Start: 100}}) {
		t.Error(calls)
	}
}

func TestStep(t *testing.T) {
	r := rule(t, "alert sum > 10 for 3 clear 2")
	l := []api.Watch{{Key: 2, N: 1}, {Key: 5, On: true, N: 1}, {Key: 7, N: 2}}
	for i, x := range []struct {
		key, v int
		w      []api.Watch
		calls  []api.Call
	}{
		{2, 11, []api.Watch{{Key: 2, N: 2}, l[1], l[2]}, nil},
		{2, 10, []api.Watch{{Key: 2}, l[1], l[2]}, nil},
		{5, 11, []api.Watch{l[0], {Key: 5, On: true}, l[2]}, nil},
		{5, 10, []api.Watch{l[0], {Key: 5}, l[2]}, []api.Call{{Key: 5, Start: 70}}},
		{7, 11, []api.Watch{l[0], l[1], {Key: 7, On: true}}, []api.Call{{Key: 7, Start: 70, On: true}}},
		{0, 11, []api.Watch{{Key: 0, N: 1}, l[0], l[1], l[2]}, nil},
		{6, 10, []api.Watch{l[0], l[1], {Key: 6}, l[2]}, nil},
		{api.MaxKey, 11, []api.Watch{l[0], l[1], l[2], {Key: api.MaxKey, N: 1}}, nil},
	} {
		given := slices.Clone(l)
		got, calls, e := alert.Step(r, l, api.Cell{Key: x.key, Start: 70, A: fold.All(x.v)})
		if !slices.Equal(got, x.w) || !slices.Equal(calls, x.calls) || e != api.OK {
			t.Errorf("%d: %v %v %d", i, got, calls, e)
		}
		got[0].Key = 99
		again, _, _ := alert.Run(r, l)
		again[0].Key = 99
		if !slices.Equal(l, given) {
			t.Fatal("the argument is changed")
		}
	}
	// A new key of a rule that asks for one window alone.
	got, calls, _ := alert.Step(rule(t, "alert sum > 10 for 1 clear 1"), nil, api.Cell{Key: 3, Start: -5, A: fold.All(11)})
	if !slices.Equal(got, []api.Watch{{Key: 3, On: true}}) || !slices.Equal(calls, []api.Call{{Key: 3, Start: -5, On: true}}) {
		t.Error(got, calls)
	}
}

func TestWrong(t *testing.T) {
	r := rule(t, "alert sum > 10 for 3 clear 2")
	for i, l := range [][]api.Watch{
		{{Key: -1}}, {{Key: api.MaxKey + 1}}, {{Key: 1}, {Key: 1}}, {{Key: 2}, {Key: 1}}, {{Key: 1, N: -1}}, {{Key: 1, N: 3}}, {{Key: 1, On: true, N: 2}}, {{Key: 1, On: true, N: -1}}, make([]api.Watch, 65),
	} {
		if l, c, e := alert.Step(r, l, api.Cell{Key: 1}); l != nil || c != nil || e != api.ErrArg {
			t.Errorf("%d: %d", i, e)
		}
		if l, c, e := alert.Run(r, l); l != nil || c != nil || e != api.ErrArg {
			t.Errorf("%d: %d", i, e)
		}
	}
	var full []api.Watch
	for k := range 64 {
		full = append(full, api.Watch{Key: 2 * k})
	}
	for _, x := range []struct {
		key int
		e   api.Errno
	}{{-1, api.ErrArg}, {api.MaxKey + 1, api.ErrArg}, {3, api.ErrFull}, {4, api.OK}} {
		if l, c, e := alert.Step(r, full, api.Cell{Key: x.key}); (l == nil) != (e != api.OK) || c != nil || e != x.e {
			t.Error(x, e)
		}
		if l, c, e := alert.Run(r, full, api.Cell{Key: 4}, api.Cell{Key: x.key}); (l == nil) != (e != api.OK) || c != nil || e != x.e {
			t.Error(x, e)
		}
	}
	if l, _, e := alert.Run(r, full[:63], api.Cell{Key: 1}); len(l) != 64 || e != api.OK {
		t.Error(len(l), e)
	}
}

// TestRows: an alert goes on at the last of so many windows in a row, and off likewise, in turns.
func TestRows(t *testing.T) {
	x := rand.New(rand.NewSource(1))
	for range 500 {
		r := api.Rule{Field: api.FieldSum, Op: api.OpGt, Limit: 0, For: 1 + x.Intn(4), Clear: 1 + x.Intn(4)}
		var l []api.Cell
		for i := range 120 {
			l = append(l, api.Cell{Key: x.Intn(2), Start: i, A: fold.All(x.Intn(4) - 1)})
		}
		watched, calls := run(t, r, nil, l...)
		var want []api.Call
		on, row := [2]bool{}, [2]int{}
		for _, c := range l {
			if (c.A.Sum > 0) == on[c.Key] {
				row[c.Key] = 0
				continue
			}
			row[c.Key]++
			if !on[c.Key] && row[c.Key] == r.For || on[c.Key] && row[c.Key] == r.Clear {
				on[c.Key] = !on[c.Key]
				row[c.Key] = 0
				want = append(want, api.Call{Key: c.Key, Start: c.Start, On: on[c.Key]})
			}
		}
		if !slices.Equal(calls, want) || !slices.Equal(watched, []api.Watch{{Key: 0, On: on[0], N: row[0]}, {Key: 1, On: on[1], N: row[1]}}) {
			t.Fatal(r, calls, want)
		}
		k := x.Intn(len(l))
		first, a := run(t, r, nil, l[:k]...)
		second, b := run(t, r, first, l[k:]...)
		if !slices.Equal(append(a, b...), want) || !slices.Equal(second, watched) {
			t.Fatal("in two calls it is not the same")
		}
	}
}
