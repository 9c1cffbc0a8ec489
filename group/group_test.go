package group_test

import (
	"math"
	"math/rand"
	"slices"
	"testing"

	"headgate/api"
	"headgate/assign"
	"headgate/group"
)

func fresh(t *testing.T, parts int, sticky bool, gen, next int) *group.Group {
	t.Helper()
	g, e := group.New(parts, sticky, gen, next)
	if e != api.OK || g == nil {
		t.Fatal(e)
	}
	return g
}

func join(t *testing.T, g *group.Group, worker, id, gen int) {
	t.Helper()
	if i, n, e := g.Join(worker); i != id || n != gen || e != api.OK {
		t.Fatalf("Join(%d) = %d %d %d", worker, i, n, e)
	}
}

func sync(t *testing.T, g *group.Group, id, gen int, parts ...int) {
	t.Helper()
	if n, l, e := g.Sync(id); n != gen || !slices.Equal(l, parts) || e != api.OK {
		t.Fatalf("Sync(%d) = %d %v %d", id, n, l, e)
	}
}

func want(t *testing.T, what string, e, w api.Errno) {
	t.Helper()
	if e != w {
		t.Errorf("%s: %d, not %d", what, e, w)
	}
}

func TestNew(t *testing.T) {
	for _, x := range []struct {
		parts, gen, next int
		e                api.Errno
	}{
		{1, 0, 1, api.OK}, {4, api.MaxNum, api.MaxNum, api.OK},
		{0, 0, 1, api.ErrArg}, {5, 0, 1, api.ErrArg}, {-1, 0, 1, api.ErrArg},
		{1, -1, 1, api.ErrArg}, {1, api.MaxNum + 1, 1, api.ErrArg}, {1, 0, 0, api.ErrArg}, {1, 0, api.MaxNum + 1, api.ErrArg}, {1, 0, math.MinInt, api.ErrArg},
	} {
		g, e := group.New(x.parts, false, x.gen, x.next)
		if e != x.e || (g == nil) != (e != api.OK) {
			t.Error(x, e)
		}
		if e == api.OK && (g.Gen() != x.gen || g.Next() != x.next || len(g.Members()) != 0 || !slices.Equal(g.Owners(), make([]int, x.parts))) {
			t.Error(x, g.Gen(), g.Next(), g.Members(), g.Owners())
		}
	}
}

func TestExample(t *testing.T) {
	g := fresh(t, 2, false, 0, 1)
	join(t, g, 1, 1, 1)
	if !slices.Equal(g.Owners(), []int{1, 1}) {
		t.Error(g.Owners())
	}
	join(t, g, 2, 2, 2)
	if !slices.Equal(g.Owners(), []int{1, 2}) {
		t.Error(g.Owners())
	}
	join(t, g, 1, 3, 3)
	if !slices.Equal(g.Owners(), []int{2, 3}) {
		t.Error(g.Owners())
	}
	want(t, "Beat", g.Beat(2, 2), api.ErrStale)
	want(t, "Beat", g.Beat(1, 3), api.ErrMember)
	want(t, "Beat", g.Beat(2, 3), api.OK)
	if l := g.Members(); !slices.Equal(l, []api.Member{{ID: 2, Worker: 2, Due: 12}, {ID: 3, Worker: 1, Due: 12}}) {
		t.Error(l)
	}
	join(t, fresh(t, 1, false, 3, 10), 2, 10, 4)
}

func TestErrors(t *testing.T) {
	g := fresh(t, 3, true, 4, 11)
	for _, w := range []int{0, -1, 9, math.MaxInt} {
		if i, n, e := g.Join(w); i != 0 || n != 0 || e != api.ErrArg {
			t.Error(w, i, n, e)
		}
	}
	join(t, g, 8, 11, 5)
	sync(t, g, 11, 5, 0, 1, 2)
	want(t, "May", g.May(11, 4, 2), api.ErrStale)
	want(t, "May", g.May(11, 5, 2), api.OK)
	want(t, "May", g.May(11, 5, 3), api.ErrOwner)
	want(t, "May", g.May(11, 5, -1), api.ErrOwner)
	want(t, "May", g.May(11, 4, 3), api.ErrStale)
	want(t, "May", g.May(12, 4, 3), api.ErrMember)
	join(t, g, 1, 12, 6)
	sync(t, g, 11, 6, 0, 1)
	sync(t, g, 12, 6, 2)
	want(t, "May", g.May(11, 6, 2), api.ErrOwner)
	want(t, "May", g.May(0, 6, 0), api.ErrMember)
	want(t, "Beat", g.Beat(0, 6), api.ErrMember)
	want(t, "Leave", g.Leave(7), api.ErrMember)
	if n, l, e := g.Sync(7); n != 0 || l != nil || e != api.ErrMember {
		t.Error(n, l, e)
	}
	want(t, "Leave", g.Leave(11), api.OK)
	want(t, "Leave", g.Leave(11), api.ErrMember)
	if g.Gen() != 7 || g.Next() != 13 || !slices.Equal(g.Owners(), []int{12, 12, 12}) {
		t.Error(g.Gen(), g.Next(), g.Owners())
	}
	want(t, "Leave", g.Leave(12), api.OK)
	if g.Gen() != 8 || !slices.Equal(g.Owners(), []int{0, 0, 0}) {
		t.Error(g.Gen(), g.Owners())
	}
}

func TestEndOfNumbers(t *testing.T) {
	g := fresh(t, 1, false, api.MaxNum-1, 5)
	join(t, g, 1, 5, api.MaxNum)
	for _, w := range []int{1, 2} {
		if i, n, e := g.Join(w); i != 0 || n != 0 || e != api.ErrRange {
			t.Error(i, n, e)
		}
	}
	_, _, e := g.Join(9)
	want(t, "Join", e, api.ErrArg)
	want(t, "Leave", g.Leave(5), api.ErrRange)
	want(t, "Leave", g.Leave(6), api.ErrMember)
	for range 20 {
		if g.Tick() {
			t.Error("a generation beyond the last one")
		}
	}
	sync(t, g, 5, api.MaxNum, 0)
	if l := g.Members(); len(l) != 1 || l[0].Due != 20+api.Session {
		t.Error(l)
	}
	g = fresh(t, 1, false, 0, api.MaxNum)
	_, _, e = g.Join(1)
	want(t, "Join", e, api.ErrRange)
}

func TestTick(t *testing.T) {
	g := fresh(t, 2, false, 0, 1)
	if g.Tick() {
		t.Error("nobody is gone")
	}
	join(t, g, 1, 1, 1) // due at 13
	join(t, g, 2, 2, 2)
	for i := range 11 {
		if g.Tick() {
			t.Error(i)
		}
		if i == 4 {
			want(t, "Beat", g.Beat(2, 1), api.ErrStale) // that is not heard
			want(t, "Beat", g.Beat(1, 2), api.OK)       // at 6
		}
		if i == 5 {
			sync(t, g, 1, 2, 0) // at 7
		}
	}
	if !g.Tick() || g.Gen() != 3 || !slices.Equal(g.Owners(), []int{1, 1}) {
		t.Error(g.Gen(), g.Owners())
	}
	if l := g.Members(); !slices.Equal(l, []api.Member{{ID: 1, Worker: 1, Due: 19}}) {
		t.Error(l)
	}
	for range 5 {
		if g.Tick() {
			t.Error("too early")
		}
	}
	if !g.Tick() || g.Tick() || g.Gen() != 4 || len(g.Members()) != 0 || !slices.Equal(g.Owners(), []int{0, 0}) {
		t.Error(g.Gen(), g.Members(), g.Owners())
	}
	join(t, g, 3, 3, 5)
	for i := 1; i <= 12; i++ {
		if g.Tick() != (i == 12) {
			t.Error(i)
		}
	}
	// A beat alone is heard, too.
	join(t, g, 3, 4, 7)
	for i := 1; i <= 17; i++ {
		if g.Tick() != (i == 17) {
			t.Error(i)
		}
		if i == 5 {
			want(t, "Beat", g.Beat(4, 7), api.OK)
		}
	}
}

func TestNil(t *testing.T) {
	var g *group.Group
	if i, n, e := g.Join(1); i != 0 || n != 0 || e != api.ErrArg {
		t.Error(i, n, e)
	}
	if n, l, e := g.Sync(1); n != 0 || l != nil || e != api.ErrMember {
		t.Error(n, l, e)
	}
	want(t, "Beat", g.Beat(1, 1), api.ErrMember)
	want(t, "Leave", g.Leave(1), api.ErrMember)
	want(t, "May", g.May(1, 1, 0), api.ErrMember)
	if g.Tick() || g.Gen() != 0 || g.Next() != 0 || g.Members() != nil || g.Owners() != nil {
		t.Error("nil")
	}
	z := &group.Group{}
	z.Join(1)
	z.Tick()
	z.Leave(0)
}

func TestOwnMemory(t *testing.T) {
	g := fresh(t, 2, true, 0, 1)
	join(t, g, 1, 1, 1)
	g.Members()[0].ID, g.Owners()[0] = 9, 9
	if g.Members()[0].ID != 1 || g.Owners()[0] != 1 {
		t.Error("results share memory with the group")
	}
}

// TestAlways: what holds whatever happens.
func TestAlways(t *testing.T) {
	r := rand.New(rand.NewSource(1))
	for round := range 200 {
		sticky := round%2 == 0
		parts := 1 + r.Intn(4)
		g := fresh(t, parts, sticky, 0, 1)
		gen, next := 0, 1
		owners := g.Owners()
		for range 100 {
			switch r.Intn(5) {
			case 0:
				worker := 1 + r.Intn(8)
				join(t, g, worker, next, gen+1)
				next++
			case 1:
				g.Leave(r.Intn(next + 1))
			case 2:
				g.Tick()
			case 3:
				g.Beat(r.Intn(next+1), gen)
			case 4:
				g.Sync(r.Intn(next + 1))
			}
			var ids []int
			workers := map[int]bool{}
			for _, m := range g.Members() {
				ids = append(ids, m.ID)
				if workers[m.Worker] {
					t.Fatal(g.Members())
				}
				workers[m.Worker] = true
			}
			if !slices.IsSorted(ids) || g.Next() != next || g.Gen() < gen || g.Gen() > gen+1 {
				t.Fatal(g.Members(), g.Next(), g.Gen())
			}
			if g.Gen() > gen {
				w, _ := assign.Range(parts, ids)
				if sticky {
					w, _ = assign.Sticky(parts, ids, owners)
				}
				owners = w
			}
			if !slices.Equal(g.Owners(), owners) {
				t.Fatal(g.Owners(), owners)
			}
			for id := range next {
				for p := range parts {
					is := slices.Contains(ids, id)
					if e := g.May(id, gen, p); g.Gen() > gen && e == api.OK || !is && e != api.ErrMember {
						t.Fatal(e)
					}
					if e := g.May(id, g.Gen(), p); (e == api.OK) != (is && owners[p] == id) {
						t.Fatal(e)
					}
				}
			}
			gen = g.Gen()
		}
	}
}
