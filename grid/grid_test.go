package grid_test

import (
	"math"
	"math/rand"
	"slices"
	"testing"

	"headgate/api"
	"headgate/grid"
)

var wrong = []api.Grid{
	{}, {Size: 10, Hop: 3}, {Size: 10}, {Size: 10, Hop: -5}, {Size: 10, Hop: 20}, {Size: -10, Hop: 5}, {Size: -10, Hop: -10}, {Size: 0, Hop: 1},
	{Size: 9, Hop: 1}, {Size: 90, Hop: 10}, {Size: grid.Limit + 1, Hop: grid.Limit + 1}, {Size: grid.Limit * 2, Hop: grid.Limit},
	{Size: 10, Hop: 10, Late: -1}, {Size: 10, Hop: 10, Late: grid.Limit + 1}, {Size: math.MaxInt, Hop: math.MaxInt, Late: math.MaxInt}, {Size: math.MinInt, Hop: -1},
}

var right = []api.Grid{
	{Size: 10, Hop: 5, Late: 2}, {Size: 1, Hop: 1}, {Size: 8, Hop: 1}, {Size: 80, Hop: 10, Late: grid.Limit}, {Size: grid.Limit, Hop: grid.Limit}, {Size: grid.Limit, Hop: grid.Limit / 8}, {Size: 6, Hop: 2, Late: 7},
}

func TestLimits(t *testing.T) {
	if grid.Most != 8 || grid.Limit != 1048576 {
		t.Error(grid.Most, grid.Limit)
	}
}

func TestCheck(t *testing.T) {
	for _, g := range wrong {
		if e := grid.Check(g); e != api.ErrArg {
			t.Errorf("Check(%v) = %d", g, e)
		}
		if l, e := grid.Starts(g, 3); l != nil || e != api.ErrArg {
			t.Errorf("Starts(%v) = %v %d", g, l, e)
		}
		if grid.Closed(g, 0, math.MaxInt) {
			t.Errorf("Closed(%v)", g)
		}
	}
	for _, g := range right {
		if e := grid.Check(g); e != api.OK {
			t.Errorf("Check(%v) = %d", g, e)
		}
		for _, at := range []int{-1, api.MaxNum + 1, math.MinInt, math.MaxInt} {
			if l, e := grid.Starts(g, at); l != nil || e != api.ErrArg {
				t.Errorf("Starts(%v, %d) = %v %d", g, at, l, e)
			}
		}
	}
}

func TestStarts(t *testing.T) {
	g := api.Grid{Size: 10, Hop: 5}
	for _, x := range []struct {
		t int
		w []int
	}{{0, []int{0}}, {3, []int{0}}, {4, []int{0}}, {5, []int{0, 5}}, {9, []int{0, 5}}, {10, []int{5, 10}}, {12, []int{5, 10}}, {api.MaxNum, []int{api.MaxNum - 6, api.MaxNum - 1}}} {
		if l, e := grid.Starts(g, x.t); !slices.Equal(l, x.w) || e != api.OK {
			t.Errorf("Starts(%d) = %v %d", x.t, l, e)
		}
	}
	// All windows of a time, tried one by one.
	for _, g := range right {
		for at := range 200 {
			var w []int
			for s := 0; s <= at; s += g.Hop {
				if at < s+g.Size {
					w = append(w, s)
				}
			}
			l, e := grid.Starts(g, at)
			if !slices.Equal(l, w) || e != api.OK {
				t.Fatalf("Starts(%v, %d) = %v %d, not %v", g, at, l, e, w)
			}
			if at >= g.Size && len(l) != g.Size/g.Hop {
				t.Fatalf("Starts(%v, %d) = %v", g, at, l)
			}
		}
	}
}

func TestClosed(t *testing.T) {
	g := api.Grid{Size: 10, Hop: 5, Late: 2}
	for _, x := range []struct {
		start, mark int
		w           bool
	}{
		{5, 17, true}, {5, 16, false}, {5, math.MaxInt, true}, {0, -1, false}, {-12, -1, false}, {-12, 0, true}, {-11, 0, false}, {-100, math.MinInt, false},
		{math.MaxInt, math.MaxInt, false}, {math.MaxInt, 5, false}, {math.MaxInt - 11, math.MaxInt, false}, {math.MaxInt - 12, math.MaxInt, true}, {math.MinInt, 0, true},
	} {
		if b := grid.Closed(g, x.start, x.mark); b != x.w {
			t.Errorf("Closed(%d, %d) = %v", x.start, x.mark, b)
		}
	}
	r := rand.New(rand.NewSource(1))
	for range 5000 {
		g := right[r.Intn(len(right))]
		start, mark := r.Intn(100)*g.Hop, r.Intn(3000)
		closed := grid.Closed(g, start, mark)
		if closed != (start+g.Size+g.Late <= mark) {
			t.Fatalf("Closed(%v, %d, %d) = %v", g, start, mark, closed)
		}
		if closed && !grid.Closed(g, start, mark+r.Intn(100)) {
			t.Fatal("a closed window is open again")
		}
	}
}
