package heavy_test

import (
	"math"
	"math/rand"
	"slices"
	"testing"

	"headgate/api"
	"headgate/heavy"
)

func fresh(t *testing.T, most int, keys ...int) *heavy.Heavy {
	t.Helper()
	h, e := heavy.New(most)
	if h == nil || e != api.OK {
		t.Fatal(e)
	}
	if e = h.Add(keys...); e != api.OK {
		t.Fatal(e)
	}
	return h
}

func count(t *testing.T, h *heavy.Heavy, key, low, high int) {
	t.Helper()
	if a, b := h.Count(key); a != low || b != high {
		t.Errorf("Count(%d) = %d %d, not %d %d", key, a, b, low, high)
	}
}

func TestNew(t *testing.T) {
	for _, n := range []int{0, -1, 65, math.MaxInt, math.MinInt} {
		if h, e := heavy.New(n); h != nil || e != api.ErrArg {
			t.Error(n, e)
		}
	}
	for _, n := range []int{1, 64} {
		h := fresh(t, n)
		if h.Seen() != 0 || len(h.Top(9)) != 0 {
			t.Error(n)
		}
		count(t, h, 0, 0, 0)
	}
}

func TestExamples(t *testing.T) {
	h := fresh(t, 2, 1, 1, 2, 3)
	if l := h.Top(2); !slices.Equal(l, []api.Tally{{Key: 1, N: 2}, {Key: 3, N: 2, Over: 1}}) || h.Seen() != 4 {
		t.Error(l)
	}
	count(t, h, 2, 0, 2)
	count(t, h, 3, 1, 2)
	count(t, fresh(t, 3, 5, 5, 1, 2, 5, 9, 9, 1), 5, 3, 3)
}

func TestAdd(t *testing.T) {
	// Of several that are rarest, the smallest key makes room.
	h := fresh(t, 3, 7, -7, 5)
	count(t, h, 9, 0, 1)
	h.Add(9)
	if l := h.Top(3); !slices.Equal(l, []api.Tally{{Key: 9, N: 2, Over: 1}, {Key: 5, N: 1}, {Key: 7, N: 1}}) {
		t.Error(l)
	}
	count(t, h, -7, 0, 1)
	h.Add(5, 7)
	h.Add(math.MinInt)
	if l := h.Top(9); !slices.Equal(l, []api.Tally{{Key: math.MinInt, N: 3, Over: 2}, {Key: 7, N: 2}, {Key: 9, N: 2, Over: 1}}) {
		t.Error(l)
	}
	h.Add()
	if h.Seen() != 7 {
		t.Error(h.Seen())
	}
	for _, x := range []struct{ n, w int }{{0, 0}, {-1, 0}, {math.MinInt, 0}, {1, 1}, {3, 3}, {4, 3}, {math.MaxInt, 3}} {
		if l := h.Top(x.n); len(l) != x.w {
			t.Error(x, l)
		}
	}
	h = fresh(t, 2, 4)
	count(t, h, 5, 0, 0) // there is room yet, so that it never came
	count(t, h, 4, 1, 1)
}

func TestNil(t *testing.T) {
	var h *heavy.Heavy
	if e := h.Add(1); e != api.ErrArg {
		t.Error(e)
	}
	if a, b := h.Count(1); a != 0 || b != 0 || h.Seen() != 0 || h.Top(3) != nil || h.Copy() != nil {
		t.Error("nil")
	}
	z := &heavy.Heavy{}
	z.Add(1, 2, 3)
	z.Count(1)
	z.Top(3)
	z.Copy()
}

func TestCopy(t *testing.T) {
	h := fresh(t, 2, 1, 1, 2)
	c := h.Copy()
	c.Add(3, 3)
	h.Top(1)[0].Key = 99
	if l := h.Top(9); !slices.Equal(l, []api.Tally{{Key: 1, N: 2}, {Key: 2, N: 1}}) || h.Seen() != 3 {
		t.Error(l)
	}
	if l := c.Top(9); !slices.Equal(l, []api.Tally{{Key: 3, N: 3, Over: 1}, {Key: 1, N: 2}}) || c.Seen() != 5 {
		t.Error(l)
	}
}

// TestBounds: how often a key came lies between its bounds, and one that came often enough is there.
func TestBounds(t *testing.T) {
	r := rand.New(rand.NewSource(1))
	for range 500 {
		most := 1 + r.Intn(6)
		h := fresh(t, most)
		n := map[int]int{}
		for i := range 200 {
			key := r.Intn(1+r.Intn(20)) - 3
			h.Add(key)
			n[key]++
			sum := 0
			l := h.Top(99)
			for _, x := range l {
				sum += x.N
			}
			if h.Seen() != i+1 || sum != i+1 || len(l) > most {
				t.Fatal(h.Seen(), sum, l)
			}
			for k := -5; k < 20; k++ {
				low, high := h.Count(k)
				there := slices.ContainsFunc(l, func(x api.Tally) bool { return x.Key == k })
				if n[k] < low || n[k] > high || n[k]*most > i+1 && !there {
					t.Fatal(k, n[k], low, high)
				}
			}
			if !slices.IsSortedFunc(l, func(a, b api.Tally) int {
				if a.N != b.N {
					return b.N - a.N
				}
				return a.Key - b.Key
			}) {
				t.Fatal(l)
			}
		}
	}
}
