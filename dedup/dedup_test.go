package dedup_test

import (
	"math"
	"math/rand"
	"slices"
	"testing"

	"headgate/api"
	"headgate/dedup"
)

func data(pid, epoch, seq, n int) api.Batch {
	return api.Batch{Kind: api.Data, PID: pid, Epoch: epoch, Seq: seq, L: make([]api.Record, n)}
}

func txn(pid, epoch, seq, n int) api.Batch {
	b := data(pid, epoch, seq, n)
	b.Kind = api.Txn
	return b
}

func mark(kind, pid, epoch int) api.Batch {
	return api.Batch{Kind: kind, PID: pid, Epoch: epoch}
}

func TestLook(t *testing.T) {
	one := []api.Prod{{PID: 1, Epoch: 2, Seq: 0, N: 3, Base: 7}}
	two := []api.Prod{{PID: 2, Epoch: 1, Seq: 0, N: 2, Base: 0}}
	odd := []api.Prod{
		{PID: 5, Epoch: 1, Seq: 4, N: -7, Base: 9}, {PID: 3, Epoch: 2, Seq: math.MaxInt, N: math.MaxInt},
		{PID: 5, Epoch: 9, Seq: 1, N: 1, Base: 1}, {PID: 1, Epoch: math.MaxInt}, {PID: 2, Epoch: -4, Seq: 6, N: 2, Base: -3},
		{PID: 6, Epoch: 1, Seq: 4, N: 0, Base: 5},
	}
	for i, x := range []struct {
		l    []api.Prod
		b    api.Batch
		at   int
		here bool
		e    api.Errno
	}{
		{one, data(1, 2, 0, 3), 7, true, api.OK},
		{one, txn(1, 2, 0, 3), 7, true, api.OK},
		{one, txn(1, 2, 3, 1), 0, false, api.OK},
		{one, txn(1, 2, 4, 1), 0, false, api.ErrSeq},
		{one, txn(1, 2, 0, 2), 0, false, api.ErrSeq},
		{one, txn(1, 2, 0, 4), 0, false, api.ErrSeq},
		{one, txn(1, 2, 1, 2), 0, false, api.ErrSeq},
		{one, txn(1, 1, 0, 3), 0, false, api.ErrFenced},
		{one, txn(1, 1, 3, 3), 0, false, api.ErrFenced},
		{one, txn(1, 3, 0, 3), 0, false, api.OK},
		{one, txn(1, 3, 3, 3), 0, false, api.ErrSeq},
		{one, txn(2, 1, 0, 3), 0, false, api.OK},
		{one, txn(2, 1, 1, 3), 0, false, api.ErrSeq},
		{one, data(0, 0, 0, 3), 0, false, api.OK},
		{one, data(0, 0, 3, 3), 0, false, api.ErrArg},
		{one, txn(1, 2, 3, 0), 0, false, api.ErrArg},
		{one, txn(1, 2, 3, 65), 0, false, api.ErrArg},
		{one, mark(api.Commit, 1, 2), 0, false, api.ErrArg},
		{one, mark(api.Abort, 1, 3), 0, false, api.ErrArg},
		{one, api.Batch{}, 0, false, api.ErrArg},
		{two, txn(2, 1, 2, 1), 0, false, api.OK},
		{two, txn(2, 1, 0, 1), 0, false, api.ErrSeq},
		{odd, txn(5, 1, 0, 1), 0, false, api.OK}, // the first row of a producer holds, and with N below 0 there is no batch
		{odd, txn(5, 1, 4, 1), 0, false, api.ErrSeq},
		{odd, txn(5, 2, 0, 1), 0, false, api.OK},
		{odd, txn(6, 1, 0, 1), 0, false, api.OK}, // nor with N 0
		{odd, txn(6, 1, 4, 1), 0, false, api.ErrSeq},
		{odd, txn(3, 2, 0, 1), 0, false, api.ErrSeq},
		{odd, txn(1, 9, 0, 1), 0, false, api.ErrFenced},
		{odd, txn(2, 1, 6, 2), 0, false, api.ErrSeq}, // of a greater epoch
		{odd, txn(2, 1, 0, 2), 0, false, api.OK},
		{nil, txn(2, 1, 0, 2), 0, false, api.OK},
	} {
		at, here, e := dedup.Look(x.l, x.b)
		if at != x.at || here != x.here || e != x.e {
			t.Errorf("%d: %d %v %d", i, at, here, e)
		}
	}
}

func TestNote(t *testing.T) {
	l := []api.Prod{{PID: 2, Epoch: 1, Seq: 5, N: 2, Base: 3}, {PID: 5, Epoch: 2}}
	for i, x := range []struct {
		l    []api.Prod
		b    api.Batch
		base int
		w    []api.Prod
	}{
		{l, data(0, 0, 0, 2), 8, l},
		{nil, txn(2, 3, 4, 5), 6, []api.Prod{{PID: 2, Epoch: 3, Seq: 4, N: 5, Base: 6}}},
		{l, txn(2, 1, 7, 1), 9, []api.Prod{{PID: 2, Epoch: 1, Seq: 7, N: 1, Base: 9}, l[1]}},
		{l, data(2, 3, 0, 1), 9, []api.Prod{{PID: 2, Epoch: 3, Seq: 0, N: 1, Base: 9}, l[1]}},
		{l, data(5, 1, 0, 1), 9, []api.Prod{l[0], {PID: 5, Epoch: 1, Seq: 0, N: 1, Base: 9}}}, // it is not checked
		{l, txn(1, 1, 0, 1), 9, []api.Prod{{PID: 1, Epoch: 1, N: 1, Base: 9}, l[0], l[1]}},
		{l, txn(3, 1, 0, 1), 9, []api.Prod{l[0], {PID: 3, Epoch: 1, N: 1, Base: 9}, l[1]}},
		{l, txn(6, 1, 0, 1), 9, []api.Prod{l[0], l[1], {PID: 6, Epoch: 1, N: 1, Base: 9}}},
		{l, mark(api.Abort, 2, 3), 9, []api.Prod{{PID: 2, Epoch: 3, Base: 9}, l[1]}},
		{l, mark(api.Commit, 2, 1), 9, l},
		{l, mark(api.Commit, 5, 1), 9, l},
		{l, mark(api.Commit, 4, 1), 9, []api.Prod{l[0], {PID: 4, Epoch: 1, Base: 9}, l[1]}},
		{l, api.Batch{Kind: 77, PID: 2, Epoch: 2, Seq: 3, L: make([]api.Record, 2)}, 9, []api.Prod{{PID: 2, Epoch: 2, Base: 9}, l[1]}},
		{l, api.Batch{Kind: -7, PID: -2, Epoch: -2, Seq: -3, L: make([]api.Record, 2)}, -9, []api.Prod{{PID: -2, Epoch: -2, Seq: -3, N: 2, Base: -9}, l[0], l[1]}},
		{[]api.Prod{l[1], l[0]}, txn(3, 1, 0, 1), 9, []api.Prod{{PID: 3, Epoch: 1, N: 1, Base: 9}, l[1], l[0]}},
		{[]api.Prod{l[1], l[0], l[0]}, txn(2, 1, 0, 1), 9, []api.Prod{l[1], {PID: 2, Epoch: 1, N: 1, Base: 9}, l[0]}},
	} {
		given := slices.Clone(x.l)
		got := dedup.Note(x.l, x.b, x.base)
		if !slices.Equal(got, x.w) {
			t.Errorf("%d: %v", i, got)
		}
		for k := range got {
			got[k].PID = 99
		}
		if !slices.Equal(x.l, given) {
			t.Errorf("%d: the argument is now %v", i, x.l)
		}
	}
	// What lies behind the rows in memory stays as it is.
	long := slices.Clone(l)
	dedup.Note(long[:1], txn(3, 1, 0, 1), 9)
	if !slices.Equal(long, l) {
		t.Error(long)
	}
	l = dedup.Note([]api.Prod{{PID: 2, Epoch: 1, Seq: 5, N: 2, Base: 3}}, mark(api.Abort, 2, 3), 9)
	if l = dedup.Note(l, mark(api.Commit, 2, 3), 12); !slices.Equal(l, []api.Prod{{PID: 2, Epoch: 3, Base: 9}}) {
		t.Error(l)
	}
}

// TestOnce: whatever is sent how often, what is stored of an epoch has consecutive numbers, and each of them once.
func TestOnce(t *testing.T) {
	r := rand.New(rand.NewSource(1))
	for range 200 {
		var l []api.Prod
		type place struct{ pid, epoch int }
		next, epoch, at := map[place]int{}, map[int]int{}, map[place][]int{}
		for base := range 300 {
			b := txn(1+r.Intn(2), 1+r.Intn(2)+base/100, r.Intn(8), 1+r.Intn(2))
			p := place{b.PID, b.Epoch}
			if r.Intn(2) == 0 {
				b.Seq = next[p]
			}
			off, here, e := dedup.Look(l, b)
			switch {
			case e == api.OK && here:
				if !slices.Contains(at[p], off) {
					t.Fatal("it is not there")
				}
			case e == api.OK:
				if b.Epoch < epoch[b.PID] || b.Seq != next[p] {
					t.Fatal(b, epoch, next)
				}
				epoch[b.PID] = b.Epoch
				next[p] += len(b.L)
				at[p] = append(at[p], base)
				l = dedup.Note(l, b, base)
			case off != 0 || here:
				t.Fatal(off, here, e)
			}
		}
	}
}
