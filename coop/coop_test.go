package coop_test

import (
	"math"
	"math/rand"
	"slices"
	"testing"

	"headgate/api"
	"headgate/assign"
	"headgate/coop"
)

func fresh(t *testing.T, parts int) *coop.Coop {
	t.Helper()
	c, e := coop.New(parts)
	if c == nil || e != api.OK {
		t.Fatal(e)
	}
	return c
}

func want(t *testing.T, what string, e, w api.Errno) {
	t.Helper()
	if e != w {
		t.Fatalf("%s: %d, not %d", what, e, w)
	}
}

func state(t *testing.T, c *coop.Coop, gen int, rests bool, have, want []int) {
	t.Helper()
	if c.Gen() != gen || c.Rests() != rests || !slices.Equal(c.Have(), have) || !slices.Equal(c.Want(), want) {
		t.Fatalf("generation %d, %v, have %v, want %v", c.Gen(), c.Rests(), c.Have(), c.Want())
	}
}

func revoke(t *testing.T, c *coop.Coop, m int, w ...int) {
	t.Helper()
	if l, e := c.Revoke(m); !slices.Equal(l, w) || e != api.OK {
		t.Fatalf("Revoke(%d) = %v %d", m, l, e)
	}
}

func TestNew(t *testing.T) {
	for _, n := range []int{0, -1, 17, math.MaxInt} {
		if c, e := coop.New(n); c != nil || e != api.ErrArg {
			t.Error(n, e)
		}
	}
	for _, n := range []int{1, 16} {
		state(t, fresh(t, n), 0, true, make([]int, n), make([]int, n))
	}
}

func TestExamples(t *testing.T) {
	c := fresh(t, 4)
	want(t, "Join", c.Join(1), api.OK)
	state(t, c, 1, true, []int{1, 1, 1, 1}, []int{1, 1, 1, 1})
	want(t, "Join", c.Join(2), api.OK)
	state(t, c, 2, false, []int{1, 1, 1, 1}, []int{1, 1, 2, 2})
	revoke(t, c, 1, 2, 3)
	revoke(t, c, 2)
	want(t, "Done", c.Done(1, 2), api.OK)
	state(t, c, 2, false, []int{1, 1, 2, 1}, []int{1, 1, 2, 2})
	want(t, "Done", c.Done(1, 3), api.OK)
	state(t, c, 2, true, []int{1, 1, 2, 2}, []int{1, 1, 2, 2}) // that begins no generation

	c = fresh(t, 6)
	want(t, "Join", c.Join(5), api.OK)
	want(t, "Join", c.Join(8, 3), api.OK)
	revoke(t, c, 5, 2, 3, 4, 5)
	state(t, c, 2, false, []int{5, 5, 5, 5, 5, 5}, []int{5, 5, 3, 8, 3, 8})
	if !slices.Equal(c.Members(), []int{3, 5, 8}) {
		t.Error(c.Members())
	}
}

func TestLeave(t *testing.T) {
	c := fresh(t, 4)
	want(t, "Join", c.Join(1), api.OK)
	want(t, "Join", c.Join(2), api.OK)
	want(t, "Done", c.Done(1, 2), api.OK)
	// What 1 has goes to 2 at once, that it was to have anyway among it.
	want(t, "Leave", c.Leave(1), api.OK)
	state(t, c, 3, true, []int{2, 2, 2, 2}, []int{2, 2, 2, 2})
	want(t, "Leave", c.Leave(2), api.OK)
	state(t, c, 4, true, []int{0, 0, 0, 0}, []int{0, 0, 0, 0})
	want(t, "Leave", c.Leave(2), api.ErrMember)
	// Nobody has what 2 is to have: that counts as had. 1 leaves with all, 2 was to have two of them, 3 none.
	c = fresh(t, 4)
	want(t, "Join", c.Join(1), api.OK)
	want(t, "Join", c.Join(2), api.OK)
	want(t, "Join", c.Join(3), api.OK)
	state(t, c, 3, false, []int{1, 1, 1, 1}, []int{1, 1, 2, 3})
	want(t, "Leave", c.Leave(1), api.OK)
	state(t, c, 4, true, []int{2, 3, 2, 3}, []int{2, 3, 2, 3})
}

func TestErrors(t *testing.T) {
	c := fresh(t, 3)
	want(t, "Join", c.Join(), api.ErrArg)
	want(t, "Join", c.Join(5, 5), api.ErrState)
	want(t, "Join", c.Join(5, 0), api.ErrArg)
	want(t, "Join", c.Join(0, 5, 5), api.ErrArg)
	want(t, "Join", c.Join(5, 5, 0), api.ErrState)
	want(t, "Join", c.Join(-1), api.ErrArg)
	want(t, "Join", c.Join(api.MaxNum+1), api.ErrArg)
	want(t, "Join", c.Join(1, 2, 3, 4, 5, 6, 7, 8, 9), api.ErrFull)
	state(t, c, 0, true, []int{0, 0, 0}, []int{0, 0, 0})
	want(t, "Join", c.Join(api.MaxNum, 1), api.OK)
	want(t, "Join", c.Join(2, 1), api.ErrState)
	want(t, "Join", c.Join(2, 3, 4, 5, 6, 7, 8), api.ErrFull)
	want(t, "Join", c.Join(2, 3, 4, 5, 6, 7), api.OK)
	want(t, "Join", c.Join(8), api.ErrFull)
	want(t, "Join", c.Join(7), api.ErrState)
	for _, m := range []int{0, 9, -1} {
		want(t, "Leave", c.Leave(m), api.ErrMember)
		want(t, "Done", c.Done(m, 9), api.ErrMember)
		if l, e := c.Revoke(m); l != nil || e != api.ErrMember {
			t.Error(l, e)
		}
	}
	c = fresh(t, 3)
	want(t, "Join", c.Join(1), api.OK)
	want(t, "Join", c.Join(2), api.OK)
	state(t, c, 2, false, []int{1, 1, 1}, []int{1, 1, 2})
	for _, p := range []int{-1, 3, math.MaxInt} {
		want(t, "Done", c.Done(1, p), api.ErrRange)
	}
	want(t, "Done", c.Done(1, 0), api.ErrOwner) // it is to have it
	want(t, "Done", c.Done(2, 2), api.ErrOwner) // it does not have it
	want(t, "Done", c.Done(1, 2), api.OK)
	want(t, "Done", c.Done(1, 2), api.ErrOwner)
	want(t, "Done", c.Done(2, 2), api.ErrOwner)
}

func TestNil(t *testing.T) {
	var c *coop.Coop
	want(t, "Join", c.Join(1), api.ErrArg)
	want(t, "Leave", c.Leave(1), api.ErrMember)
	want(t, "Done", c.Done(1, 0), api.ErrMember)
	if l, e := c.Revoke(1); l != nil || e != api.ErrMember {
		t.Error(l, e)
	}
	if c.Rests() || c.Gen() != 0 || c.Have() != nil || c.Want() != nil || c.Members() != nil {
		t.Error("nil")
	}
	z := &coop.Coop{}
	z.Join(1)
	z.Revoke(1)
	z.Leave(1)
}

func TestMemory(t *testing.T) {
	c := fresh(t, 2)
	l := []int{2, 1}
	want(t, "Join", c.Join(l...), api.OK)
	c.Have()[0], c.Want()[0], c.Members()[0] = 9, 9, 9
	if !slices.Equal(l, []int{2, 1}) || c.Have()[0] != 1 || c.Want()[0] != 1 || c.Members()[0] != 1 {
		t.Error(l, c.Have(), c.Want(), c.Members())
	}
}

// TestHandOver: a partition goes to another one only when its owner gave it up or left, and all comes to rest.
func TestHandOver(t *testing.T) {
	r := rand.New(rand.NewSource(1))
	for range 1000 {
		parts := 1 + r.Intn(16)
		c := fresh(t, parts)
		for range 60 {
			before, wanted, gen, members := c.Have(), c.Want(), c.Gen(), c.Members()
			m, p := 1+r.Intn(9), r.Intn(parts)
			kind := r.Intn(5)
			var e api.Errno
			switch kind {
			case 0:
				e = c.Join(m)
			case 1:
				e = c.Leave(m)
			default:
				e = c.Done(m, p)
			}
			now := c.Have()
			for q, owner := range before {
				given := e == api.OK && (kind == 1 && owner == m || kind > 1 && q == p)
				if owner != 0 && now[q] != owner && !given {
					t.Fatal(before, now)
				}
				if kind > 1 && given && wanted[q] == owner {
					t.Fatal("what was to stay is gone")
				}
				if now[q] == 0 && len(c.Members()) > 0 {
					t.Fatal("nobody has it")
				}
			}
			began := e == api.OK && kind <= 1
			if began != (c.Gen() == gen+1) || !began && (c.Gen() != gen || !slices.Equal(c.Want(), wanted) || !slices.Equal(c.Members(), members)) {
				t.Fatal(gen, c.Gen())
			}
			if began {
				old := slices.Clone(before)
				for q := range old {
					if kind == 1 && old[q] == m {
						old[q] = 0
					}
					if old[q] == 0 {
						old[q] = wanted[q]
					}
				}
				if w, _ := assign.Sticky(parts, c.Members(), old); !slices.Equal(c.Want(), w) {
					t.Fatal(c.Want(), w)
				}
			}
		}
		for _, m := range c.Members() {
			l, _ := c.Revoke(m)
			for _, p := range l {
				want(t, "Done", c.Done(m, p), api.OK)
			}
		}
		n := map[int]int{}
		low, high := parts, 0
		for _, m := range c.Have() {
			n[m]++
		}
		for _, m := range c.Members() {
			low, high = min(low, n[m]), max(high, n[m])
		}
		if !c.Rests() || len(c.Members()) > 0 && high-low > 1 {
			t.Fatal(c.Have(), c.Want())
		}
	}
}
