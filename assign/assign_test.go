package assign_test

import (
	"math"
	"math/rand"
	"slices"
	"testing"

	"headgate/api"
	"headgate/assign"
)

func TestRange(t *testing.T) {
	for _, x := range []struct {
		parts      int
		members, w []int
	}{
		{5, []int{7, 3}, []int{3, 3, 3, 7, 7}},
		{5, []int{3, 7, 3, 0, -2, 7}, []int{3, 3, 3, 7, 7}},
		{4, []int{1, 2}, []int{1, 1, 2, 2}},
		{2, []int{9, 4, 6}, []int{4, 6}},
		{8, []int{1, 2, 3}, []int{1, 1, 1, 2, 2, 2, 3, 3}},
		{3, nil, []int{0, 0, 0}},
		{3, []int{0, -1, math.MinInt}, []int{0, 0, 0}},
		{1, []int{math.MaxInt}, []int{math.MaxInt}},
	} {
		if l, e := assign.Range(x.parts, x.members); !slices.Equal(l, x.w) || e != api.OK {
			t.Errorf("Range(%d, %v) = %v %d", x.parts, x.members, l, e)
		}
	}
}

func TestSticky(t *testing.T) {
	for _, x := range []struct {
		parts           int
		members, old, w []int
	}{
		{5, []int{1, 2}, []int{1, 1, 1, 1, 1, 2}, []int{1, 1, 1, 2, 2}},
		{5, []int{3, 7, 9}, []int{3, 3, 3, 7, 7}, []int{3, 3, 9, 7, 7}},
		{5, []int{7, 3}, nil, []int{3, 7, 3, 7, 3}},
		{4, []int{1, 2}, []int{2, 2}, []int{2, 2, 1, 1}},
		{4, []int{1, 2}, []int{0, 5, -1, 1}, []int{2, 1, 2, 1}},
		{5, []int{1, 2}, []int{2, 2, 2, 1, 1}, []int{2, 2, 2, 1, 1}},
		{5, []int{1, 2}, []int{2, 1, 2, 1, 2}, []int{2, 1, 2, 1, 2}},
		{6, []int{1, 2, 3}, []int{1, 1, 1, 1, 2, 2}, []int{1, 1, 3, 3, 2, 2}},
		{2, []int{1, 2, 3}, []int{3, 3}, []int{3, 1}},
		{2, []int{1, 2, 3}, []int{3, 2}, []int{3, 2}},
		{3, nil, []int{1, 2, 3}, []int{0, 0, 0}},
		{3, []int{-1, 0}, []int{-1, 0, 3}, []int{0, 0, 0}},
		{1, []int{2}, []int{2, 2, 2, 2}, []int{2}},
	} {
		members, old := slices.Clone(x.members), slices.Clone(x.old)
		if l, e := assign.Sticky(x.parts, x.members, x.old); !slices.Equal(l, x.w) || e != api.OK {
			t.Errorf("Sticky(%d, %v, %v) = %v %d", x.parts, x.members, x.old, l, e)
		}
		if !slices.Equal(members, x.members) || !slices.Equal(old, x.old) {
			t.Error("an argument is changed")
		}
	}
}

func TestWrong(t *testing.T) {
	for _, parts := range []int{0, -1, 65, math.MaxInt, math.MinInt} {
		if l, e := assign.Range(parts, []int{1}); l != nil || e != api.ErrArg {
			t.Error(l, e)
		}
		if l, e := assign.Sticky(parts, []int{1}, nil); l != nil || e != api.ErrArg {
			t.Error(l, e)
		}
	}
	for _, parts := range []int{1, 64} {
		if l, e := assign.Range(parts, []int{1}); len(l) != parts || e != api.OK {
			t.Error(l, e)
		}
		if l, e := assign.Sticky(parts, []int{1}, nil); len(l) != parts || e != api.OK {
			t.Error(l, e)
		}
	}
	// Nothing is sorted or removed in what is handed in.
	given := []int{5, 0, 3, 3}
	assign.Range(4, given)
	if !slices.Equal(given, []int{5, 0, 3, 3}) {
		t.Error(given)
	}
}

func shares(owners []int) map[int]int {
	n := map[int]int{}
	for _, m := range owners {
		n[m]++
	}
	return n
}

func TestFair(t *testing.T) {
	r := rand.New(rand.NewSource(1))
	for range 20000 {
		parts := 1 + r.Intn(12)
		var members, old []int
		for m := 1; m <= 6; m++ {
			if r.Intn(2) == 0 {
				members = append(members, m)
			}
		}
		if len(members) == 0 {
			continue
		}
		for range r.Intn(14) {
			old = append(old, r.Intn(8))
		}
		if r.Intn(3) == 0 { // balanced, of more members
			old, _ = assign.Sticky(parts, append(slices.Clone(members), 7, 8), old)
		}
		had := shares(old[:min(len(old), parts)])
		for i, f := range []func() ([]int, api.Errno){
			func() ([]int, api.Errno) { return assign.Range(parts, members) },
			func() ([]int, api.Errno) { return assign.Sticky(parts, members, old) },
		} {
			l, e := f()
			n := shares(l)
			low, high := parts, 0
			for _, m := range members {
				low, high = min(low, n[m]), max(high, n[m])
			}
			if e != api.OK || len(l) != parts || n[0] > 0 || high-low > 1 {
				t.Fatal(l, e)
			}
			if i == 0 {
				if !slices.IsSorted(l) {
					t.Fatal(l)
				}
				continue
			}
			for _, m := range members {
				kept := 0
				for p := range min(parts, len(old)) {
					if old[p] == m && l[p] == m {
						kept++
					}
				}
				if kept < min(had[m], parts/len(members)) {
					t.Fatalf("%d of %v keeps %d: %v", m, old, kept, l)
				}
			}
		}
	}
}

// TestLeave: if the shares were balanced and members leave, the others keep all that they had.
func TestLeave(t *testing.T) {
	r := rand.New(rand.NewSource(2))
	for range 5000 {
		parts, all := 1+r.Intn(12), 2+r.Intn(5)
		var members, old, left []int
		for m := range all {
			members = append(members, m+1)
		}
		for range parts {
			old = append(old, r.Intn(9))
		}
		old, _ = assign.Sticky(parts, members, old)
		for _, m := range members {
			if r.Intn(3) > 0 {
				left = append(left, m)
			}
		}
		l, _ := assign.Sticky(parts, left, old)
		for p, m := range old {
			if slices.Contains(left, m) && l[p] != m {
				t.Fatalf("%v, %v left: %v", old, left, l)
			}
		}
	}
}
