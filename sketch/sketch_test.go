package sketch_test

import (
	"math"
	"math/rand"
	"slices"
	"testing"

	"headgate/api"
	"headgate/sketch"
	"headgate/varint"
)

func add(t *testing.T, s []api.Bucket, l ...int) []api.Bucket {
	t.Helper()
	s, e := sketch.Add(s, l...)
	if e != api.OK || sketch.Check(s) != api.OK {
		t.Fatal(e, s)
	}
	return s
}

func TestOf(t *testing.T) {
	for _, x := range [][2]int{
		{0, 0}, {1, 1}, {15, 15}, {16, 16}, {31, 31}, {32, 32}, {33, 32}, {34, 33}, {63, 47}, {64, 48}, {1000, 111}, {992, 111}, {1023, 111}, {1024, 112}, {math.MaxInt, 959},
		{-1, -1}, {-2, -2}, {-32, -32}, {-33, -33}, {-34, -33}, {-35, -34}, {math.MinInt, -960},
	} {
		if b := sketch.Of(x[0]); b != x[1] {
			t.Errorf("Of(%d) = %d", x[0], b)
		}
	}
}

func TestEnds(t *testing.T) {
	for _, x := range [][3]int{{111, 992, 1023}, {0, 0, 0}, {31, 31, 31}, {32, 32, 33}, {-1, -1, -1}, {-33, -34, -33}, {959, 31 << 58, math.MaxInt}, {-960, math.MinInt, -(31 << 58) - 1}} {
		if low, high, e := sketch.Ends(x[0]); low != x[1] || high != x[2] || e != api.OK {
			t.Errorf("Ends(%d) = %d %d %d", x[0], low, high, e)
		}
	}
	for _, b := range []int{960, -961, math.MaxInt, math.MinInt} {
		if low, high, e := sketch.Ends(b); low != 0 || high != 0 || e != api.ErrArg {
			t.Errorf("Ends(%d) = %d %d %d", b, low, high, e)
		}
	}
	// Buckets lie side by side, hold their ends, and are narrow.
	next := math.MinInt
	for b := -960; b <= 959; b++ {
		low, high, e := sketch.Ends(b)
		if low != next || high < low || e != api.OK || sketch.Of(low) != b || sketch.Of(high) != b {
			t.Fatal(b, low, high)
		}
		if near := min(max(low, -1-low), max(high, -1-high)); (high-low)*16 > near+1 {
			t.Fatal(b, low, high)
		}
		if low >= 0 && (high-low)*16 > low || high < 0 && (high-low)*16 > -high {
			t.Fatal(b, low, high)
		}
		next = high + 1
	}
	if next != math.MinInt {
		t.Error(next)
	}
}

var wrong = [][]api.Bucket{
	{{B: 960, N: 1}}, {{B: -961, N: 1}}, {{B: 1, N: 0}}, {{B: 1, N: -1}}, {{B: 1, N: api.MaxNum + 1}}, {{B: 1, N: math.MaxInt}}, {{B: 1, N: 1}, {B: 1, N: 1}}, {{B: 2, N: 1}, {B: 1, N: 1}},
	{{B: 1, N: api.MaxNum}, {B: 2, N: 1}}, {{B: 1, N: math.MaxInt}, {B: 2, N: math.MaxInt}, {B: 3, N: 3}}, {{B: math.MinInt, N: 1}},
}

func TestWrong(t *testing.T) {
	for i, s := range wrong {
		if e := sketch.Check(s); e != api.ErrArg {
			t.Errorf("%d: %d", i, e)
		}
		if n := sketch.Count(s); n != 0 {
			t.Errorf("%d: %d", i, n)
		}
		if x, e := sketch.Add(s, 1); x != nil || e != api.ErrArg {
			t.Errorf("%d: %d", i, e)
		}
		for _, x := range [][2][]api.Bucket{{s, nil}, {nil, s}, {s, s}} {
			if x, e := sketch.Merge(x[0], x[1]); x != nil || e != api.ErrArg {
				t.Errorf("%d: %d", i, e)
			}
		}
		if b, e := sketch.Quantile(s, 1, 2); b != 0 || e != api.ErrArg {
			t.Errorf("%d: %d %d", i, b, e)
		}
		if x, e := sketch.Encode(s); x != "" || e != api.ErrArg {
			t.Errorf("%d: %q %d", i, x, e)
		}
		raw := varint.Put(len(s))
		last := 0
		for _, x := range s {
			raw += varint.PutAll(x.B-last, x.N)
			last = x.B
		}
		if x, e := sketch.Decode(raw); x != nil || e != api.ErrForm {
			t.Errorf("%d: %v %d", i, x, e)
		}
	}
	full := []api.Bucket{{B: 1, N: api.MaxNum}}
	if x, e := sketch.Add(full, 1); x != nil || e != api.ErrRange {
		t.Error(x, e)
	}
	if x, e := sketch.Add(full); !slices.Equal(x, full) || e != api.OK {
		t.Error(x, e)
	}
	if x, e := sketch.Merge([]api.Bucket{{B: 5, N: 1}}, full); x != nil || e != api.ErrRange {
		t.Error(x, e)
	}
	if x, e := sketch.Merge(nil, full); !slices.Equal(x, full) || e != api.OK {
		t.Error(x, e)
	}
	almost := []api.Bucket{{B: 1, N: api.MaxNum - 2}}
	if x, e := sketch.Add(almost, 7, 7, 7); x != nil || e != api.ErrRange {
		t.Error(x, e)
	}
	if x, e := sketch.Add(almost, 7, 1); !slices.Equal(x, []api.Bucket{{B: 1, N: api.MaxNum - 1}, {B: 7, N: 1}}) || e != api.OK {
		t.Error(x, e)
	}
}

func TestQuantile(t *testing.T) {
	var s []api.Bucket
	for v := 0; v < 1000; v += 10 {
		s = add(t, s, v)
	}
	for _, x := range [][3]int{{1, 2, 490}, {0, 1, 0}, {1, 1, 990}, {1, 100, 0}, {2, 100, 10}, {101, 10000, 10}, {99, 100, 980}, {999999, 1000000, 990}} {
		if b, e := sketch.Quantile(s, x[0], x[1]); b != sketch.Of(x[2]) || e != api.OK {
			t.Errorf("%d of %d: %d %d", x[0], x[1], b, e)
		}
	}
	for _, x := range [][2]int{{0, 0}, {1, 0}, {-1, 2}, {3, 2}, {1, 1000001}, {math.MaxInt, math.MaxInt}, {0, -1}, {math.MinInt, 1}} {
		for _, s := range [][]api.Bucket{s, nil} {
			if b, e := sketch.Quantile(s, x[0], x[1]); b != 0 || e != api.ErrArg {
				t.Error(x, b, e)
			}
		}
	}
	if b, e := sketch.Quantile(nil, 1, 2); b != 0 || e != api.ErrNone {
		t.Error(b, e)
	}
	if b, e := sketch.Quantile([]api.Bucket{{B: -5, N: api.MaxNum / 2}, {B: 7, N: api.MaxNum / 2}}, 500001, 1000000); b != 7 || e != api.OK {
		t.Error(b, e)
	}
	r := rand.New(rand.NewSource(1))
	for range 2000 {
		var l []int
		for range 1 + r.Intn(30) {
			l = append(l, int(r.Uint64())>>r.Intn(64))
		}
		s := add(t, nil, l...)
		slices.Sort(l)
		of := 1 + r.Intn(40)
		part := r.Intn(of + 1)
		k := max(1, (len(l)*part+of-1)/of)
		if b, e := sketch.Quantile(s, part, of); b != sketch.Of(l[k-1]) || e != api.OK {
			t.Fatal(l, part, of, b, e)
		}
	}
}

func TestEncode(t *testing.T) {
	s := add(t, nil, 5, -1, 33, 5)
	text := varint.PutAll(3, -1, 1, 6, 2, 27, 1)
	if x, e := sketch.Encode(s); x != text || e != api.OK {
		t.Errorf("%x %d", x, e)
	}
	if x, e := sketch.Decode(text); !slices.Equal(x, s) || e != api.OK {
		t.Error(x, e)
	}
	if x, e := sketch.Encode(nil); x != "\x00" || e != api.OK {
		t.Errorf("%x %d", x, e)
	}
	if x, e := sketch.Decode("\x00"); len(x) != 0 || e != api.OK {
		t.Error(x, e)
	}
	for k := range text {
		if x, e := sketch.Decode(text[:k]); x != nil || e != api.ErrForm {
			t.Error(k, x, e)
		}
	}
	for _, bad := range []string{text + "\x00", "\x86\x00" + text[1:], varint.Put(-1), varint.Put(1921), varint.Put(math.MaxInt), varint.PutAll(1, math.MaxInt, 1), varint.PutAll(2, 900, 1, math.MaxInt, 1), varint.PutAll(2, -900, 1, math.MinInt, 1)} {
		if x, e := sketch.Decode(bad); x != nil || e != api.ErrForm {
			t.Errorf("%x: %v %d", bad, x, e)
		}
	}
	var all []api.Bucket
	for b := -960; b < 960; b++ {
		all = append(all, api.Bucket{B: b, N: 2})
	}
	x, e := sketch.Encode(all)
	if y, f := sketch.Decode(x); !slices.Equal(y, all) || e != api.OK || f != api.OK || len(all) != sketch.Most {
		t.Error(e, f)
	}
}

// TestOrder: neither the order of numbers nor the way of merging matters.
func TestOrder(t *testing.T) {
	r := rand.New(rand.NewSource(2))
	for range 500 {
		var l []int
		for range r.Intn(40) {
			l = append(l, int(r.Uint64())>>(r.Intn(64)))
		}
		s := add(t, nil, l...)
		given := slices.Clone(s)
		if sketch.Count(s) != len(l) {
			t.Fatal(s)
		}
		r.Shuffle(len(l), func(i, j int) { l[i], l[j] = l[j], l[i] })
		k := r.Intn(len(l) + 1)
		a, b := add(t, nil, l[:k]...), add(t, nil, l[k:]...)
		ab, _ := sketch.Merge(a, b)
		ba, _ := sketch.Merge(b, a)
		more := add(t, a, l[k:]...)
		if !slices.Equal(ab, s) || !slices.Equal(ba, s) || !slices.Equal(more, s) {
			t.Fatal(s, ab, ba, more)
		}
		text, _ := sketch.Encode(s)
		if x, e := sketch.Decode(text); !slices.Equal(x, s) || e != api.OK {
			t.Fatal(x, e)
		}
		if len(s) == 0 {
			continue
		}
		for i, f := range []func() []api.Bucket{
			func() []api.Bucket { return add(t, s) },
			func() []api.Bucket { x, _ := sketch.Merge(s, nil); return x },
			func() []api.Bucket { x, _ := sketch.Merge(nil, s); return x },
			func() []api.Bucket { return add(t, s, l...) },
			func() []api.Bucket { return add(t, s[:1], l...) },
		} {
			f()[0].N = 99
			if !slices.Equal(s, given) {
				t.Fatal(i, "the argument is changed")
			}
		}
	}
}
