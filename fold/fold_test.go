package fold_test

import (
	"math"
	"math/big"
	"math/rand"
	"testing"

	"headgate/api"
	"headgate/fold"
	"headgate/varint"
)

func TestSort(t *testing.T) {
	for _, x := range [][2]int{{math.MinInt, 0}, {-1, 0}, {0, 1}, {9, 1}, {10, 2}, {99, 2}, {100, 3}, {math.MaxInt, 3}} {
		if n := fold.Sort(x[0]); n != x[1] {
			t.Errorf("Sort(%d) = %d", x[0], n)
		}
	}
}

func TestAll(t *testing.T) {
	for _, x := range []struct {
		l []int
		w api.Agg
	}{
		{nil, api.Agg{}},
		{[]int{5, -1, 12}, api.Agg{Count: 3, Sum: 16, Min: -1, Max: 12, Hist: [4]int{1, 1, 1, 0}, Re: 1, Im: 0}},
		{[]int{0}, api.Agg{Count: 1, Hist: [4]int{0, 1}, Re: 1}},
		{[]int{1}, api.Agg{Count: 1, Sum: 1, Min: 1, Max: 1, Hist: [4]int{0, 1}, Im: 1}},
		{[]int{2}, api.Agg{Count: 1, Sum: 2, Min: 2, Max: 2, Hist: [4]int{0, 1}, Re: -1}},
		{[]int{3}, api.Agg{Count: 1, Sum: 3, Min: 3, Max: 3, Hist: [4]int{0, 1}, Im: -1}},
		{[]int{-1}, api.Agg{Count: 1, Sum: -1, Min: -1, Max: -1, Hist: [4]int{1}, Im: -1}},
		{[]int{-2}, api.Agg{Count: 1, Sum: -2, Min: -2, Max: -2, Hist: [4]int{1}, Re: -1}},
		{[]int{-3}, api.Agg{Count: 1, Sum: -3, Min: -3, Max: -3, Hist: [4]int{1}, Im: 1}},
		{[]int{-4, 100}, api.Agg{Count: 2, Sum: 96, Min: -4, Max: 100, Hist: [4]int{1, 0, 0, 1}, Re: 2}},
		{[]int{math.MaxInt, 1, -5}, api.Agg{Count: 3, Sum: math.MaxInt - 5, Min: -5, Max: math.MaxInt, Hist: [4]int{1, 1, 0, 1}, Re: 0, Im: -1}},
		{[]int{math.MinInt, -1, 5}, api.Agg{Count: 3, Sum: math.MinInt + 5, Min: math.MinInt, Max: 5, Hist: [4]int{2, 1, 0, 0}, Re: 1, Im: 0}},
		{[]int{math.MinInt, math.MinInt}, api.Agg{Count: 2, Sum: math.MinInt, Min: math.MinInt, Max: math.MinInt, Hist: [4]int{2}, Re: 2}},
	} {
		a := fold.All(x.l...)
		if a != x.w {
			t.Errorf("All(%v) = %v", x.l, a)
		}
		if e := fold.Check(a); (e == api.OK) != (len(x.l) > 0) {
			t.Errorf("Check(All(%v)) = %d", x.l, e)
		}
	}
}

// TestAddAny adds to what numbers can't have come to.
func TestAddAny(t *testing.T) {
	const top, low = math.MaxInt, math.MinInt
	a := api.Agg{Count: top, Sum: top, Min: 9, Max: -9, Hist: [4]int{top, top, top, top}, Re: top, Im: low}
	w := api.Agg{Count: top, Sum: top, Min: 4, Max: 4, Hist: [4]int{top, top, top, top}, Re: top, Im: low}
	if got := fold.Add(a, 4); got != w {
		t.Error(got)
	}
	a.Im = top
	w.Min, w.Max, w.Im, w.Sum = 5, 5, top, top
	if got := fold.Add(a, 5); got != w {
		t.Error(got)
	}
	a.Im = low
	w.Min, w.Max, w.Im, w.Sum = -1, -1, low, top-1
	if got := fold.Add(a, -1); got != w {
		t.Error(got)
	}
	b := api.Agg{Count: 0, Sum: -3, Min: -9, Max: 9, Hist: [4]int{-1, -2, -3, -4}, Re: low, Im: 7}
	if got := fold.Add(b, 6); got != (api.Agg{Count: 1, Sum: 3, Min: 6, Max: 6, Hist: [4]int{-1, -1, -3, -4}, Re: low, Im: 7}) {
		t.Error(got)
	}
	b.Count = -1
	if got := fold.Add(b, 6); got != (api.Agg{Count: 0, Sum: 3, Min: -9, Max: 9, Hist: [4]int{-1, -1, -3, -4}, Re: low, Im: 7}) {
		t.Error(got)
	}
}

func TestCheck(t *testing.T) {
	const q = 1 << 62
	good := api.Agg{Count: 3, Sum: 16, Min: -1, Max: 12, Hist: [4]int{1, 1, 1, 0}, Re: 1, Im: -2}
	for i, x := range []struct {
		f func(a *api.Agg)
		e api.Errno
	}{
		{func(a *api.Agg) {}, api.OK},
		{func(a *api.Agg) { a.Sum = math.MinInt }, api.OK},
		{func(a *api.Agg) { a.Min = 12 }, api.OK},
		{func(a *api.Agg) { a.Min = 13 }, api.ErrArg},
		{func(a *api.Agg) { a.Count = 0 }, api.ErrArg},
		{func(a *api.Agg) { a.Count = 4 }, api.ErrArg},
		{func(a *api.Agg) { a.Count, a.Hist = 0, [4]int{} }, api.ErrArg},
		{func(a *api.Agg) { a.Count, a.Hist = -1, [4]int{-1} }, api.ErrArg},
		{func(a *api.Agg) { a.Count, a.Hist[3] = api.MaxNum, api.MaxNum-3 }, api.OK},
		{func(a *api.Agg) { a.Count, a.Hist[3] = api.MaxNum+1, api.MaxNum-2 }, api.ErrArg},
		{func(a *api.Agg) { a.Hist = [4]int{4, -1, 0, 0} }, api.ErrArg},
		{func(a *api.Agg) { a.Hist = [4]int{q, q, q, q + 3} }, api.ErrArg},
		{func(a *api.Agg) { a.Re = -1 }, api.OK},
		{func(a *api.Agg) { a.Re = 2 }, api.ErrArg},
		{func(a *api.Agg) { a.Re = -2 }, api.ErrArg},
		{func(a *api.Agg) { a.Im = -3 }, api.ErrArg},
		{func(a *api.Agg) { a.Re, a.Im = 0, -3 }, api.OK},
		{func(a *api.Agg) { a.Re, a.Im = 0, 3 }, api.OK},
		{func(a *api.Agg) { a.Re = math.MinInt }, api.ErrArg},
		{func(a *api.Agg) { a.Im = math.MinInt }, api.ErrArg},
		{func(a *api.Agg) { a.Re, a.Im = math.MinInt, math.MinInt }, api.ErrArg},
		{func(a *api.Agg) { a.Re, a.Im = math.MaxInt, 3 }, api.ErrArg},
	} {
		a := good
		x.f(&a)
		if e := fold.Check(a); e != x.e {
			t.Errorf("%d: Check(%v) = %d", i, a, e)
		}
		raw := varint.PutAll(a.Count, a.Sum, a.Min, a.Max, a.Hist[0], a.Hist[1], a.Hist[2], a.Hist[3], a.Re, a.Im)
		s, e := fold.Encode(a)
		if e != x.e || e == api.OK && s != raw || e != api.OK && s != "" {
			t.Errorf("%d: Encode(%v) = %x %d", i, a, s, e)
		}
		b, e := fold.Decode(raw)
		if x.e == api.OK && (b != a || e != api.OK) || x.e != api.OK && (b != api.Agg{} || e != api.ErrForm) {
			t.Errorf("%d: Decode = %v %d", i, b, e)
		}
	}
	if e := fold.Check(api.Agg{Count: 1, Hist: [4]int{1}, Min: 2}); e != api.ErrArg {
		t.Error(e)
	}
	s, _ := fold.Encode(good)
	for _, bad := range []string{"", s + "\x00", s[:len(s)-1], "\x86\x00" + s[1:]} {
		if a, e := fold.Decode(bad); a != (api.Agg{}) || e != api.ErrForm {
			t.Errorf("Decode(%x) = %v %d", bad, a, e)
		}
	}
}

// TestOrder: what numbers come to does not hang on their order, unless a sum meets the ends of the range.
func TestOrder(t *testing.T) {
	r := rand.New(rand.NewSource(1))
	for range 3000 {
		var l []int
		sum := new(big.Int)
		for range 1 + r.Intn(20) {
			v := int(r.Uint64()) >> (6 + r.Intn(58))
			l = append(l, v)
			sum.Add(sum, big.NewInt(int64(v)))
		}
		a := fold.All(l...)
		if fold.Check(a) != api.OK || a.Count != len(l) || int64(a.Sum) != sum.Int64() {
			t.Fatal(l, a)
		}
		r.Shuffle(len(l), func(i, j int) { l[i], l[j] = l[j], l[i] })
		if b := fold.All(l...); b != a {
			t.Fatal(l, a, b)
		}
		l = append(l, math.MaxInt, math.MaxInt, math.MinInt)
		if fold.Check(fold.All(l...)) != api.OK {
			t.Fatal(l)
		}
	}
}
