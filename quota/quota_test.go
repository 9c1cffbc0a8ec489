package quota_test

import (
	"math"
	"math/rand"
	"slices"
	"testing"

	"headgate/api"
	"headgate/quota"
)

func take(t *testing.T, r api.Rate, l []api.Account, who, n, now, ticks int, w api.Errno) []api.Account {
	t.Helper()
	given := slices.Clone(l)
	got, k, e := quota.Take(r, l, who, n, now)
	if k != ticks || e != w || (got == nil) != (e != api.OK && e != api.ErrWait) {
		t.Fatalf("Take(%d, %d, %d) = %v %d %d", who, n, now, got, k, e)
	}
	if !slices.Equal(l, given) {
		t.Fatal("the argument is changed")
	}
	return got
}

func TestCheck(t *testing.T) {
	if quota.Limit != 1048576 {
		t.Error(quota.Limit)
	}
	for _, x := range []struct {
		r api.Rate
		e api.Errno
	}{
		{api.Rate{Tick: 1, Most: 1}, api.OK}, {api.Rate{Tick: quota.Limit, Most: quota.Limit}, api.OK}, {api.Rate{Tick: 9, Most: 1}, api.OK},
		{api.Rate{Tick: 0, Most: 1}, api.ErrArg}, {api.Rate{Tick: 1, Most: 0}, api.ErrArg}, {api.Rate{Tick: quota.Limit + 1, Most: 1}, api.ErrArg}, {api.Rate{Tick: 1, Most: quota.Limit + 1}, api.ErrArg}, {api.Rate{Tick: -1, Most: math.MinInt}, api.ErrArg},
	} {
		if e := quota.Check(x.r); e != x.e {
			t.Error(x, e)
		}
		if l, k, e := quota.Take(x.r, nil, 1, 1, 1); (e == api.OK) != (x.e == api.OK) || e != api.OK && (l != nil || k != 0 || e != api.ErrArg) {
			t.Error(x, l, k, e)
		}
		if l, e := quota.Trim(x.r, nil, 1); len(l) != 0 || e != x.e {
			t.Error(x, l, e)
		}
	}
}

func TestExamples(t *testing.T) {
	r := api.Rate{Tick: 2, Most: 5}
	l := take(t, r, nil, 1, 4, 0, 0, api.OK)
	if !slices.Equal(l, []api.Account{{Who: 1, Left: 1}}) {
		t.Error(l)
	}
	l = take(t, r, l, 1, 4, 0, 2, api.ErrWait)
	if !slices.Equal(l, []api.Account{{Who: 1, Left: 1}}) {
		t.Error(l)
	}
	l = take(t, r, l, 1, 4, 1, 1, api.ErrWait)
	if !slices.Equal(l, []api.Account{{Who: 1, Left: 1}}) { // it stays as it is
		t.Error(l)
	}
	l = take(t, r, l, 1, 4, 2, 0, api.OK)
	if !slices.Equal(l, []api.Account{{Who: 1, Left: 1, Since: 2}}) {
		t.Error(l)
	}
	r = api.Rate{Tick: 3, Most: 10}
	l = take(t, r, nil, 7, 10, 0, 0, api.OK)
	take(t, r, l, 7, 1, 0, 1, api.ErrWait)
	take(t, r, l, 7, 10, 0, 4, api.ErrWait)
	take(t, r, l, 7, 9, 0, 3, api.ErrWait)
	l = take(t, r, l, 7, 0, 0, 0, api.OK)
	l = take(t, r, l, 7, 10, 1000, 0, api.OK) // never more than Most
	if !slices.Equal(l, []api.Account{{Who: 7, Since: 1000}}) {
		t.Error(l)
	}
}

func TestTake(t *testing.T) {
	r := api.Rate{Tick: 2, Most: 5}
	l := []api.Account{{Who: 2, Left: 0, Since: 9}, {Who: 5, Left: 3, Since: 4}}
	for _, x := range []struct {
		who, n, now int
		w           []api.Account
	}{
		{0, 5, 9, []api.Account{{Who: 0, Left: 0, Since: 9}, l[0], l[1]}},
		{3, 0, 9, []api.Account{l[0], {Who: 3, Left: 5, Since: 9}, l[1]}},
		{api.MaxNum, 1, api.MaxNum, []api.Account{l[0], l[1], {Who: api.MaxNum, Left: 4, Since: api.MaxNum}}},
		{2, 2, 10, []api.Account{{Who: 2, Left: 0, Since: 10}, l[1]}},
		{5, 1, 9, []api.Account{l[0], {Who: 5, Left: 4, Since: 9}}},
	} {
		if got := take(t, r, l, x.who, x.n, x.now, 0, api.OK); !slices.Equal(got, x.w) {
			t.Error(x, got)
		}
	}
	if got := take(t, r, l, 2, 5, 10, 2, api.ErrWait); !slices.Equal(got, l) {
		t.Error(got)
	}
	big := api.Rate{Tick: quota.Limit, Most: quota.Limit}
	take(t, big, []api.Account{{Who: 1}}, 1, quota.Limit, api.MaxNum, 0, api.OK)
	take(t, api.Rate{Tick: 1, Most: quota.Limit}, []api.Account{{Who: 1}}, 1, quota.Limit, 0, quota.Limit, api.ErrWait)
}

func TestWrong(t *testing.T) {
	r := api.Rate{Tick: 2, Most: 5}
	for i, l := range [][]api.Account{
		{{Who: -1}}, {{Who: api.MaxNum + 1}}, {{Who: 1}, {Who: 1}}, {{Who: 2}, {Who: 1}}, {{Who: 1, Left: -1}}, {{Who: 1, Left: 6}}, {{Who: 1, Since: -1}}, {{Who: 1, Since: 10}}, {{Who: 1, Since: math.MinInt}}, make([]api.Account, 65),
	} {
		take(t, r, l, 1, 1, 9, 0, api.ErrArg)
		take(t, r, l, 1, 9, 9, 0, api.ErrArg)
		if got, e := quota.Trim(r, l, 9); got != nil || e != api.ErrArg {
			t.Errorf("%d: %v %d", i, got, e)
		}
	}
	l := []api.Account{{Who: 1, Left: 5}}
	for _, now := range []int{-1, api.MaxNum + 1, math.MaxInt} {
		take(t, r, l, 1, 1, now, 0, api.ErrArg)
		take(t, r, nil, 1, 9, now, 0, api.ErrArg)
		if got, e := quota.Trim(r, nil, now); got != nil || e != api.ErrArg {
			t.Error(got, e)
		}
	}
	take(t, r, l, -1, 1, 9, 0, api.ErrArg)
	take(t, r, l, api.MaxNum+1, 9, 9, 0, api.ErrArg)
	take(t, r, l, 1, -1, 9, 0, api.ErrArg)
	take(t, r, l, 1, math.MinInt, 9, 0, api.ErrArg)
	take(t, r, l, 1, 6, 9, 0, api.ErrRange)
	take(t, r, l, 1, math.MaxInt, 9, 0, api.ErrRange)
	var full []api.Account
	for k := range 64 {
		full = append(full, api.Account{Who: 2 * k})
	}
	take(t, r, full, 3, 1, 9, 0, api.ErrFull)
	take(t, r, full, 3, 6, 9, 0, api.ErrRange)
	take(t, r, full, 4, 1, 9, 0, api.OK)
	take(t, r, full[:63], 3, 1, 9, 0, api.OK)
}

func TestTrim(t *testing.T) {
	r := api.Rate{Tick: 2, Most: 5}
	l := []api.Account{{Who: 1, Left: 5, Since: 9}, {Who: 2, Left: 4, Since: 9}, {Who: 3, Left: 0, Since: 7}, {Who: 4, Left: 1, Since: 7}, {Who: 5, Left: 0, Since: 6}}
	given := slices.Clone(l)
	got, e := quota.Trim(r, l, 9)
	if !slices.Equal(got, []api.Account{l[1], l[2]}) || e != api.OK {
		t.Error(got, e)
	}
	got[0].Who = 77
	if !slices.Equal(l, given) {
		t.Error("the argument is changed")
	}
	if got, e := quota.Trim(r, l, 12); len(got) != 0 || e != api.OK {
		t.Error(got, e)
	}
}

// TestRate: in any interval of ticks nobody uses more than may be, and whoever waits as told may go on.
func TestRate(t *testing.T) {
	x := rand.New(rand.NewSource(1))
	for range 300 {
		r := api.Rate{Tick: 1 + x.Intn(5), Most: 1 + x.Intn(20)}
		var l []api.Account
		var used [3][200]int
		for now := range 200 {
			for range x.Intn(4) {
				who, n := x.Intn(3), x.Intn(r.Most+1)
				next, ticks, e := quota.Take(r, l, who, n, now)
				switch e {
				case api.OK:
					l = next
					used[who][now] += n
				case api.ErrWait:
					if _, _, e := quota.Take(r, next, who, n, now+ticks); e != api.OK {
						t.Fatal(e)
					}
					if _, k, e := quota.Take(r, next, who, n, now+ticks-1); e != api.ErrWait || k != 1 {
						t.Fatal(k, e)
					}
				default:
					t.Fatal(e)
				}
			}
			if x.Intn(5) == 0 {
				l, _ = quota.Trim(r, l, now)
			}
		}
		for who := range 3 {
			for from := range 200 {
				sum := 0
				for to := from; to < 200; to++ {
					if sum += used[who][to]; sum > r.Most+r.Tick*(to-from) {
						t.Fatal(sum, from, to)
					}
				}
			}
		}
	}
}
