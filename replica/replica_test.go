package replica_test

import (
	"math"
	"math/rand"
	"slices"
	"testing"

	"headgate/api"
	"headgate/replica"
)

func fresh(t *testing.T, n int) *replica.Set {
	t.Helper()
	s, e := replica.New(n)
	if s == nil || e != api.OK {
		t.Fatal(e)
	}
	return s
}

func do(t *testing.T, s *replica.Set, w api.Errno, kind, n int) {
	t.Helper()
	if e := s.Do(api.Deed{Kind: kind, N: n, V: n}); e != w {
		t.Fatalf("deed %d %d: %d, not %d", kind, n, e, w)
	}
}

// deeds does several, each a kind and a number.
func deeds(t *testing.T, s *replica.Set, l ...int) {
	t.Helper()
	for i := 0; i < len(l); i += 2 {
		do(t, s, api.OK, l[i], l[i+1])
	}
}

func state(t *testing.T, s *replica.Set, leader, epoch, high int, in ...int) {
	t.Helper()
	l, e := s.Leader()
	if l != leader || e != epoch || s.High() != high || !slices.Equal(s.In(), in) {
		t.Fatalf("leader %d, epoch %d, high %d, in %v; not %d %d %d %v", l, e, s.High(), s.In(), leader, epoch, high, in)
	}
}

const (
	put, fetch, fail, begin, shrink, elect = api.RepAppend, api.RepFetch, api.RepFail, api.RepBegin, api.RepShrink, api.RepElect
)

func TestNew(t *testing.T) {
	for _, n := range []int{0, -1, 6, math.MaxInt} {
		if s, e := replica.New(n); s != nil || e != api.ErrArg {
			t.Error(n, e)
		}
	}
	s := fresh(t, 5)
	state(t, s, 1, 1, 0, 1, 2, 3, 4, 5)
	for n := -1; n <= 6; n++ {
		if s.Up(n) != (n >= 1 && n <= 5) || len(s.Log(n)) != 0 {
			t.Error(n)
		}
	}
	if l, ok := s.Committed(); len(l) != 0 || !ok {
		t.Error(l, ok)
	}
	s = fresh(t, 1)
	do(t, s, api.OK, put, 7)
	state(t, s, 1, 1, 1, 1)
}

func TestExamples(t *testing.T) {
	s := fresh(t, 2)
	deeds(t, s, put, 5, fetch, 2)
	state(t, s, 1, 1, 1, 1, 2)
	deeds(t, s, fail, 2, put, 6)
	state(t, s, 1, 1, 2, 1)
	deeds(t, s, begin, 2, fail, 1)
	do(t, s, api.ErrNone, elect, 0)
	state(t, s, 0, 1, 2, 1)
	if l, ok := s.Committed(); l != nil || ok {
		t.Error(l, ok)
	}
	s = fresh(t, 3)
	deeds(t, s, put, 1, put, 2, fetch, 2, fetch, 3)
	state(t, s, 1, 1, 2, 1, 2, 3)
	do(t, s, api.ErrState, fetch, 1)
}

func TestErrors(t *testing.T) {
	s := fresh(t, 2)
	for _, kind := range []int{fetch, fail, begin, shrink} {
		for _, n := range []int{0, 3, -1, math.MaxInt, math.MinInt} {
			do(t, s, api.ErrArg, kind, n)
		}
	}
	for _, kind := range []int{0, 7, -1, math.MinInt, math.MaxInt} {
		do(t, s, api.ErrArg, kind, 1)
	}
	do(t, s, api.ErrState, elect, 0)
	do(t, s, api.ErrState, begin, 1)
	do(t, s, api.ErrState, shrink, 1)
	deeds(t, s, shrink, 2)
	do(t, s, api.ErrState, shrink, 2)
	deeds(t, s, fail, 2)
	do(t, s, api.ErrDown, fail, 2)
	do(t, s, api.ErrDown, fetch, 2)
	deeds(t, s, begin, 2, fail, 1)
	do(t, s, api.ErrDown, put, 1)
	do(t, s, api.ErrDown, fetch, 2)
	do(t, s, api.ErrDown, shrink, 2)
	do(t, s, api.ErrArg, shrink, 3)
	do(t, s, api.ErrNone, elect, 0)
	deeds(t, s, begin, 1, elect, 0)
	state(t, s, 1, 2, 0, 1)
	for i := range api.MaxCopies {
		do(t, s, api.OK, put, i)
	}
	do(t, s, api.ErrFull, put, 1)
	state(t, s, 1, 2, 200, 1)
}

func TestFetch(t *testing.T) {
	s := fresh(t, 3)
	deeds(t, s, put, 1, put, 2, put, 3, put, 4, put, 5, shrink, 3, fetch, 2)
	state(t, s, 1, 1, 3, 1, 2)
	if l := s.Log(2); len(l) != 3 || l[2] != (api.Copy{Epoch: 1, V: 3}) {
		t.Error(l)
	}
	deeds(t, s, fetch, 3)
	state(t, s, 1, 1, 3, 1, 2) // it has not all of it yet
	deeds(t, s, fetch, 3)
	state(t, s, 1, 1, 3, 1, 2, 3)
	deeds(t, s, fetch, 2)
	state(t, s, 1, 1, 5, 1, 2, 3)
	deeds(t, s, fetch, 2, fetch, 3) // there is no more
	state(t, s, 1, 1, 5, 1, 2, 3)
	deeds(t, s, put, 6, shrink, 2)
	state(t, s, 1, 1, 5, 1, 3)
	// The mark is raised when the one that lags is in sync no more.
	deeds(t, s, put, 7, fetch, 2)
	state(t, s, 1, 1, 5, 1, 2, 3)
	deeds(t, s, shrink, 3)
	state(t, s, 1, 1, 7, 1, 2)
	s = fresh(t, 3)
	deeds(t, s, put, 1, fetch, 2, fail, 1, fail, 3)
	state(t, s, 0, 1, 0, 1, 2, 3)
	deeds(t, s, elect, 0) // 2 is alone
	state(t, s, 2, 2, 1, 2)
}

func TestFail(t *testing.T) {
	s := fresh(t, 3)
	deeds(t, s, put, 1, put, 2, put, 3, put, 4, put, 5, put, 6, fetch, 3, fetch, 3, shrink, 2)
	state(t, s, 1, 1, 6, 1, 3)
	deeds(t, s, put, 7)
	state(t, s, 1, 1, 6, 1, 3)
	deeds(t, s, fail, 3)
	state(t, s, 1, 1, 7, 1)
}

func TestElect(t *testing.T) {
	s := fresh(t, 3)
	deeds(t, s, put, 1, fetch, 2, fetch, 3, put, 2, fetch, 2, fail, 1)
	state(t, s, 0, 1, 1, 1, 2, 3)
	if l, ok := s.Committed(); !ok || !slices.Equal(l, []api.Copy{{Epoch: 1, V: 1}}) {
		t.Error(l, ok)
	}
	deeds(t, s, fail, 3) // without a leader nobody says that it is not in sync
	state(t, s, 0, 1, 1, 1, 2, 3)
	deeds(t, s, begin, 3, elect, 0)
	state(t, s, 2, 2, 1, 2, 3)
	deeds(t, s, put, 3)
	state(t, s, 2, 2, 1, 2, 3) // nothing is known of 3 any more
	deeds(t, s, fetch, 3)
	state(t, s, 2, 2, 3, 2, 3)
	if l := s.Log(3); !slices.Equal(l, []api.Copy{{Epoch: 1, V: 1}, {Epoch: 1, V: 2}, {Epoch: 2, V: 3}}) {
		t.Error(l)
	}
	// The first one that is up and in sync leads.
	deeds(t, s, begin, 1, fetch, 1, fetch, 1, fail, 2, elect, 0)
	state(t, s, 1, 3, 3, 1, 3)
}

// TestTruncate: what the leader does not have is cut off, and nothing else happens.
func TestTruncate(t *testing.T) {
	s := fresh(t, 3)
	deeds(t, s, put, 1, fetch, 2, fetch, 3, put, 2, put, 3, put, 4, fail, 1, elect, 0, put, 5, fetch, 3, fail, 3, put, 6, begin, 1)
	state(t, s, 2, 2, 3, 2)
	if l := s.Log(1); len(l) != 4 {
		t.Fatal(l)
	}
	deeds(t, s, fetch, 1) // the leader's end of epoch 1 is 1
	if l := s.Log(1); !slices.Equal(l, []api.Copy{{Epoch: 1, V: 1}}) {
		t.Error(l)
	}
	state(t, s, 2, 2, 3, 2)
	deeds(t, s, fetch, 1)
	if l := s.Log(1); !slices.Equal(l, s.Log(2)) || len(l) != 3 {
		t.Error(l)
	}
	state(t, s, 2, 2, 3, 1, 2)
	// An epoch that the leader never saw: 2 and 3 both lead without anybody.
	s = fresh(t, 3)
	deeds(t, s, put, 1, fetch, 2, fetch, 3, fail, 1, elect, 0, put, 2, put, 3, fail, 2, elect, 0, put, 4, begin, 2)
	state(t, s, 3, 3, 2, 3)
	deeds(t, s, fetch, 2)
	if l := s.Log(2); !slices.Equal(l, []api.Copy{{Epoch: 1, V: 1}}) {
		t.Error(l)
	}
	deeds(t, s, fetch, 2)
	if l := s.Log(2); !slices.Equal(l, []api.Copy{{Epoch: 1, V: 1}, {Epoch: 3, V: 4}}) {
		t.Error(l)
	}
	// A leader without entries leaves nothing.
	s = fresh(t, 2)
	deeds(t, s, put, 1, put, 2, fail, 1, elect, 0, begin, 1, fetch, 1)
	if l := s.Log(1); len(l) != 0 {
		t.Error(l)
	}
	deeds(t, s, fetch, 1)
	state(t, s, 2, 2, 0, 1, 2)
}

func TestNil(t *testing.T) {
	var s *replica.Set
	do(t, s, api.ErrArg, put, 1)
	if l, e := s.Leader(); l != 0 || e != 0 || s.High() != 0 || s.Log(1) != nil || s.Up(1) || s.In() != nil {
		t.Error("nil")
	}
	if l, ok := s.Committed(); l != nil || ok {
		t.Error(l, ok)
	}
	z := &replica.Set{}
	for kind := range 8 {
		z.Do(api.Deed{Kind: kind, N: 1})
	}
	z.Committed()
}

func TestMemory(t *testing.T) {
	s := fresh(t, 2)
	deeds(t, s, put, 1, fetch, 2)
	s.Log(1)[0].V = 99
	s.In()[0] = 99
	l, _ := s.Committed()
	l[0].V = 99
	if l := s.Log(1); l[0].V != 1 || s.Log(2)[0].V != 1 || s.In()[0] != 1 {
		t.Error(l)
	}
	// A follower's log shares nothing with the leader's.
	deeds(t, s, put, 2, put, 3, fail, 1, elect, 0, put, 9, begin, 1, fetch, 1, fetch, 1)
	if !slices.Equal(s.Log(1), []api.Copy{{Epoch: 1, V: 1}, {Epoch: 2, V: 9}}) || !slices.Equal(s.Log(2), s.Log(1)) {
		t.Error(s.Log(1), s.Log(2))
	}
}

// TestSafe: the mark never goes back, what is committed stays as it is, and every later leader has it.
func TestSafe(t *testing.T) {
	r := rand.New(rand.NewSource(1))
	for range 1500 {
		n := 1 + r.Intn(5)
		s := fresh(t, n)
		high := 0
		var committed []api.Copy
		for v := range 150 {
			kind := []int{put, put, put, fetch, fetch, fetch, fetch, fetch, fail, begin, begin, shrink, elect, elect}[r.Intn(14)]
			before := [6][]api.Copy{}
			for i := 1; i <= n; i++ {
				before[i] = s.Log(i)
			}
			e := s.Do(api.Deed{Kind: kind, N: 1 + r.Intn(n), V: v})
			if s.High() < high {
				t.Fatal("the mark goes back")
			}
			high = s.High()
			if l, ok := s.Committed(); ok {
				if len(l) != high || !slices.Equal(l[:len(committed)], committed) {
					t.Fatal(l, committed)
				}
				committed = l
			}
			if k, _ := s.Leader(); k != 0 {
				l := s.Log(k)
				if len(l) < high || !slices.Equal(l[:len(committed)], committed) {
					t.Fatal(l, committed)
				}
				if !s.Up(k) || !slices.Contains(s.In(), k) {
					t.Fatal(k)
				}
			}
			for i := 1; i <= n; i++ {
				if e != api.OK && !slices.Equal(s.Log(i), before[i]) {
					t.Fatal("an error changed something")
				}
				for j := 1; j < i; j++ {
					match(t, s.Log(i), s.Log(j))
				}
			}
		}
	}
}

// match: where two logs have an entry of the same epoch at the same place, they are equal up to it.
func match(t *testing.T, a, b []api.Copy) {
	t.Helper()
	for i := min(len(a), len(b)) - 1; i >= 0; i-- {
		if a[i].Epoch == b[i].Epoch {
			if !slices.Equal(a[:i+1], b[:i+1]) {
				t.Fatal(a, b)
			}
			return
		}
	}
}
