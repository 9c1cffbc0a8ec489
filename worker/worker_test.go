package worker_test

import (
	"math"
	"math/rand"
	"reflect"
	"slices"
	"testing"

	"headgate/api"
	"headgate/broker"
	"headgate/change"
	"headgate/disk"
	"headgate/engine"
	"headgate/fold"
	"headgate/varint"
	"headgate/wire"
	"headgate/worker"
)

const bit = 1 << worker.Bit

func config() api.Config {
	return api.Config{Parts: 2, Workers: 3, Blocks: 100, Most: 3, G: api.Grid{Size: 10, Hop: 10}}
}

func fresh(t *testing.T, num int, c api.Config, first int) *worker.Worker {
	t.Helper()
	w, e := worker.New(num, c, first)
	if w == nil || e != api.OK {
		t.Fatal(e)
	}
	return w
}

// at checks which request waits, but for its number, and in which phase.
func at(t *testing.T, w *worker.Worker, phase int, a api.Ask) {
	t.Helper()
	got, ok := w.Ask()
	a.ID = got.ID
	if !ok || !reflect.DeepEqual(got, a) || w.Phase() != phase {
		t.Fatalf("phase %d, %v %v, not %d, %v", w.Phase(), got, ok, phase, a)
	}
}

// hear answers what waits.
func hear(t *testing.T, w *worker.Worker, r api.Reply) {
	t.Helper()
	a, ok := w.Ask()
	if !ok {
		t.Fatal("nothing is asked")
	}
	r.ID = a.ID
	w.Hear(r)
	if b, ok := w.Ask(); ok && b.ID != a.ID+1 {
		t.Fatal(a, b)
	}
}

func rec(key, time, v int) api.Record {
	return api.Record{Key: key, Time: time, Text: varint.Put(v)}
}

func got(off int, l ...api.Record) []api.Got {
	var g []api.Got
	for i, r := range l {
		g = append(g, api.Got{Off: off + i, R: r})
	}
	return g
}

func TestCheck(t *testing.T) {
	good := config()
	for i, f := range []func(c *api.Config){
		func(c *api.Config) { c.Parts = 0 }, func(c *api.Config) { c.Parts = 5 }, func(c *api.Config) { c.Workers = 0 }, func(c *api.Config) { c.Workers = 9 },
		func(c *api.Config) { c.Blocks = 0 }, func(c *api.Config) { c.Blocks = api.MaxBlocks + 1 }, func(c *api.Config) { c.Most = 0 }, func(c *api.Config) { c.Most = 65 },
		func(c *api.Config) { c.G.Hop = 3 }, func(c *api.Config) { c.G = api.Grid{} }, func(c *api.Config) { c.Q.When.Op = 99 },
	} {
		c := good
		f(&c)
		if e := worker.Check(c); e != api.ErrArg {
			t.Errorf("%d: %d", i, e)
		}
		if w, e := worker.New(1, c, 0); w != nil || e != api.ErrArg {
			t.Errorf("%d: %d", i, e)
		}
	}
	for _, c := range []api.Config{good, {Parts: 4, Workers: 8, Blocks: api.MaxBlocks, Most: 64, G: good.G, Sticky: true}, {Parts: 1, Workers: 1, Blocks: 1, Most: 1, G: good.G}} {
		if e := worker.Check(c); e != api.OK {
			t.Error(e)
		}
	}
	for _, x := range [][2]int{{4, 0}, {0, 0}, {-1, 0}, {1, -1}, {1, api.MaxNum + 1}, {1, math.MinInt}} {
		if w, e := worker.New(x[0], good, x[1]); w != nil || e != api.ErrArg {
			t.Error(x, e)
		}
	}
	fresh(t, 3, good, api.MaxNum)
}

func TestExample(t *testing.T) {
	w := fresh(t, 1, config(), 5)
	for _, x := range []struct {
		a api.Ask
		r api.Reply
	}{
		{api.Ask{Kind: api.AskJoin, ID: 5, Worker: 1}, api.Reply{ID: 5, A: 1, B: 1}},
		{api.Ask{Kind: api.AskInit, ID: 6, PID: 1}, api.Reply{ID: 6, A: 1}},
		{api.Ask{Kind: api.AskSync, ID: 7, Member: 1}, api.Reply{ID: 7, A: 1, Nums: []int{0}}},
		{api.Ask{Kind: api.AskOffset, ID: 8}, api.Reply{}},
	} {
		for _, id := range []int{x.a.ID - 1, x.a.ID + 1, -1, math.MaxInt} {
			w.Hear(api.Reply{ID: id, A: 7, Err: api.ErrMember})
		}
		if a, ok := w.Ask(); !ok || !reflect.DeepEqual(a, x.a) {
			t.Fatal(a, ok)
		}
		w.Hear(x.r)
	}
}

// polls tells a worker in PhasePoll with partition 1, of which two records are committed.
func polls(t *testing.T, c api.Config) *worker.Worker {
	t.Helper()
	w := fresh(t, 2, c, 0)
	at(t, w, api.PhaseJoin, api.Ask{Kind: api.AskJoin, Worker: 2})
	hear(t, w, api.Reply{A: 4, B: 9})
	at(t, w, api.PhaseInit, api.Ask{Kind: api.AskInit, PID: 2})
	hear(t, w, api.Reply{A: 6})
	at(t, w, api.PhaseSync, api.Ask{Kind: api.AskSync, Member: 4})
	hear(t, w, api.Reply{A: 10, Nums: []int{-1, 2, 1}})
	if !slices.Equal(w.Parts(), []int{1}) {
		t.Fatal(w.Parts())
	}
	at(t, w, api.PhaseOffset, api.Ask{Kind: api.AskOffset, Part: 1})
	hear(t, w, api.Reply{A: 2})
	at(t, w, api.PhaseRestore, api.Ask{Kind: api.AskFetch, Part: 5, Off: 0, Most: 16, Yes: true})
	if _, _, ok := w.Known(1); ok {
		t.Fatal("it knows too much")
	}
	old := api.State{Mark: 3, N: 2, L: []api.Cell{{Key: 1, Start: 0, A: fold.All(5, 6)}}}
	diff := change.Diff(engine.Zero(), old)
	hear(t, w, api.Reply{A: 3, B: 9, L: got(0, diff[0])})
	at(t, w, api.PhaseRestore, api.Ask{Kind: api.AskFetch, Part: 5, Off: 3, Most: 16, Yes: true})
	hear(t, w, api.Reply{A: 9, B: 9, L: got(3, diff[1])})
	at(t, w, api.PhasePoll, api.Ask{Kind: api.AskFetch, Part: 1, Off: 2, Most: 16, Yes: true})
	if s, n, ok := w.Known(1); !ok || n != 2 || !reflect.DeepEqual(s, old) {
		t.Fatal(s, n, ok)
	}
	return w
}

func TestTransaction(t *testing.T) {
	w := polls(t, config())
	hear(t, w, api.Reply{A: 99, B: 99, L: got(2, rec(1, 4, 7), rec(2, 12, 8), rec(3, 13, 9), rec(4, 14, 9))})
	at(t, w, api.PhaseAdd, api.Ask{Kind: api.AskAdd, PID: 2, Epoch: 6, Parts: bit + 8 + 32})
	hear(t, w, api.Reply{})
	out, _ := change.Out(api.Cell{Key: 1, A: fold.All(5, 6, 7)})
	at(t, w, api.PhasePut, api.Ask{Kind: api.AskPut, Part: 3, B: api.Batch{Kind: api.Txn, PID: 2, Epoch: 6, L: []api.Record{out}}})
	hear(t, w, api.Reply{})
	now := api.State{Mark: 13, N: 5, L: []api.Cell{{Key: 2, Start: 10, A: fold.All(8)}, {Key: 3, Start: 10, A: fold.All(9)}}}
	diff := change.Diff(api.State{Mark: 3, N: 2, L: []api.Cell{{Key: 1, Start: 0, A: fold.All(5, 6)}}}, now)
	at(t, w, api.PhasePut, api.Ask{Kind: api.AskPut, Part: 5, B: api.Batch{Kind: api.Txn, PID: 2, Epoch: 6, L: diff}})
	hear(t, w, api.Reply{A: 5, B: 1})
	at(t, w, api.PhaseCommit, api.Ask{Kind: api.AskCommit, PID: 2, Epoch: 6, Member: 4, Gen: 10, Part: 1, From: 2, Off: 5})
	hear(t, w, api.Reply{})
	at(t, w, api.PhaseEnd, api.Ask{Kind: api.AskEnd, PID: 2, Epoch: 6, Yes: true})
	if _, n, _ := w.Known(1); n != 2 {
		t.Error(n)
	}
	hear(t, w, api.Reply{Err: api.ErrFull})
	at(t, w, api.PhaseEnd, api.Ask{Kind: api.AskEnd, PID: 2, Epoch: 6, Yes: true})
	hear(t, w, api.Reply{A: 7})
	at(t, w, api.PhaseBeat, api.Ask{Kind: api.AskBeat, Member: 4, Gen: 10})
	if s, n, ok := w.Known(1); !ok || n != 5 || !reflect.DeepEqual(s, now) {
		t.Error(s, n, ok)
	}
	hear(t, w, api.Reply{})
	at(t, w, api.PhaseOffset, api.Ask{Kind: api.AskOffset, Part: 1})
	hear(t, w, api.Reply{A: 5})
	at(t, w, api.PhasePoll, api.Ask{Kind: api.AskFetch, Part: 1, Off: 5, Most: 16, Yes: true})
	hear(t, w, api.Reply{A: 5, B: 5})
	at(t, w, api.PhaseBeat, api.Ask{Kind: api.AskBeat, Member: 4, Gen: 10})
	hear(t, w, api.Reply{})
	hear(t, w, api.Reply{A: 6}) // somebody else was there: the state is forgotten
	at(t, w, api.PhaseRestore, api.Ask{Kind: api.AskFetch, Part: 5, Most: 16, Yes: true})
	if _, _, ok := w.Known(1); ok {
		t.Error("it is known")
	}
}

// TestBatches: many changes go in several batches, with the numbers of what was written to the same partition.
func TestBatches(t *testing.T) {
	c := config()
	c.Most = 64
	c.G = api.Grid{Size: 80, Hop: 10, Late: 0}
	w := polls2(t, c, 0)
	var l []api.Record
	for k := range 8 {
		l = append(l, rec(k, 79, 1)) // eight windows each
	}
	l = append(l, rec(9, 200, 1))
	hear(t, w, api.Reply{L: got(0, l...)})
	hear(t, w, api.Reply{})
	a, _ := w.Ask()
	if a.Part != 2 || len(a.B.L) != 64 || a.B.Seq != 0 {
		t.Fatal(w.Phase(), a.Part, len(a.B.L), a.B.Seq)
	}
	hear(t, w, api.Reply{})
	a, _ = w.Ask()
	if a.Kind != api.AskPut || a.Part != 4 || a.B.Seq != 0 || len(a.B.L) != 1 {
		t.Fatal(a) // all windows are gone, one record was too many for the windows: the counters alone
	}
	hear(t, w, api.Reply{})
	hear(t, w, api.Reply{})
	hear(t, w, api.Reply{A: 2})
	hear(t, w, api.Reply{})
	hear(t, w, api.Reply{A: 9})
	l = nil
	for k := range 8 {
		l = append(l, rec(k, 279, 1))
	}
	hear(t, w, api.Reply{L: got(9, l...)})
	hear(t, w, api.Reply{})
	for _, x := range []struct{ seq, n int }{{0, 64}, {64, 1}} {
		a, _ = w.Ask()
		if a.Kind != api.AskPut || a.Part != 4 || a.B.Seq != x.seq || len(a.B.L) != x.n || a.B.Epoch != 2 {
			t.Fatal(a.Part, len(a.B.L), a.B.Seq)
		}
		hear(t, w, api.Reply{})
	}
	at(t, w, api.PhaseCommit, api.Ask{Kind: api.AskCommit, PID: 1, Epoch: 2, Member: 1, Gen: 1, From: 9, Off: 17})
}

// polls2 tells a worker in PhasePoll with some partitions, 0 being the first one, of which nothing is committed.
func polls2(t *testing.T, c api.Config, nums ...int) *worker.Worker {
	t.Helper()
	w := fresh(t, 1, c, 0)
	for _, r := range []api.Reply{{A: 1, B: 1}, {A: 1}, {A: 1, Nums: nums}, {A: 0}, {}} {
		hear(t, w, r)
	}
	at(t, w, api.PhasePoll, api.Ask{Kind: api.AskFetch, Most: 16, Yes: true})
	return w
}

func TestPoll(t *testing.T) {
	for i, x := range []struct {
		l     []api.Got
		taken int
	}{
		{nil, 0}, {got(3, rec(1, 1, 1)), 0}, {got(1, rec(1, 1, 1)), 0}, {got(2, rec(1, 1, 1)), 1},
		{append(got(2, rec(1, 4, 1)), got(4, rec(1, 4, 1))...), 1},
		{got(2, rec(1, 4, 1), rec(1, 4, 1), rec(1, 4, 1), rec(1, 4, 1)), 3},
		{got(2, rec(1, 4, 1), rec(-1, 4, 1)), 2},                              // it does not pass, but it is taken
		{got(2, rec(1, 4, 1), api.Record{Key: -1, Time: 4, Text: "\x80"}), 0}, // it may not be
		{got(2, api.Record{Key: 1, Time: 1, Text: "\x80"}), 1},
	} {
		w := polls(t, config())
		hear(t, w, api.Reply{L: x.l})
		if x.taken == 0 {
			at(t, w, api.PhaseBeat, api.Ask{Kind: api.AskBeat, Member: 4, Gen: 10})
			continue
		}
		for w.Phase() != api.PhaseCommit {
			hear(t, w, api.Reply{})
		}
		if a, _ := w.Ask(); a.Off != 2+x.taken {
			t.Error(i, a)
		}
	}
	// What a query lets nothing of through is committed without anything to write.
	c := config()
	c.Q.When = api.Node{Op: api.OpNumber}
	w := polls(t, c)
	hear(t, w, api.Reply{L: got(2, rec(1, 1, 1), rec(1, 1, 1))})
	at(t, w, api.PhaseAdd, api.Ask{Kind: api.AskAdd, PID: 2, Epoch: 6, Parts: bit})
	hear(t, w, api.Reply{})
	at(t, w, api.PhaseCommit, api.Ask{Kind: api.AskCommit, PID: 2, Epoch: 6, Member: 4, Gen: 10, Part: 1, From: 2, Off: 4})
	// A query changes what is counted.
	c = config()
	c.Q.Key = api.Node{Op: api.OpNumber, N: 77}
	w = polls(t, c)
	hear(t, w, api.Reply{L: got(2, rec(1, 3, 1))})
	hear(t, w, api.Reply{})
	if a, _ := w.Ask(); len(a.B.L) != 2 || a.B.L[1].Key != 77 {
		t.Error(a)
	}
}

func TestRestoreWrong(t *testing.T) {
	for _, r := range []api.Reply{{L: got(0, rec(1, 1, 1))}, {A: 5, B: 5, L: got(0, api.Record{})}} {
		w := fresh(t, 1, config(), 0)
		for _, x := range []api.Reply{{A: 1, B: 1}, {A: 1}, {A: 1, Nums: []int{0, 1}}, {A: 0}} {
			hear(t, w, x)
		}
		hear(t, w, r)
		at(t, w, api.PhaseBeat, api.Ask{Kind: api.AskBeat, Member: 1, Gen: 1})
		if _, _, ok := w.Known(0); ok {
			t.Error("it is known")
		}
		hear(t, w, api.Reply{})
		at(t, w, api.PhaseOffset, api.Ask{Kind: api.AskOffset, Part: 1})
		hear(t, w, api.Reply{A: 3})
		hear(t, w, api.Reply{A: 0, B: 7}) // nothing of the other partition is left over
		if s, n, ok := w.Known(1); !ok || n != 3 || !reflect.DeepEqual(s, engine.Zero()) {
			t.Error(s, n, ok)
		}
	}
}

func TestTurns(t *testing.T) {
	w := polls2(t, config(), 0, 1)
	for i := range 5 {
		hear(t, w, api.Reply{}) // nothing to take
		at(t, w, api.PhaseBeat, api.Ask{Kind: api.AskBeat, Member: 1, Gen: 1})
		hear(t, w, api.Reply{})
		at(t, w, api.PhaseOffset, api.Ask{Kind: api.AskOffset, Part: (i + 1) % 2})
		hear(t, w, api.Reply{})
		if i == 0 {
			hear(t, w, api.Reply{})
		}
		at(t, w, api.PhasePoll, api.Ask{Kind: api.AskFetch, Part: (i + 1) % 2, Most: 16, Yes: true})
	}
	w = fresh(t, 1, config(), 0)
	for _, r := range []api.Reply{{A: 1, B: 1}, {A: 1}, {A: 3, Nums: []int{2, 7}}} {
		hear(t, w, r)
	}
	at(t, w, api.PhaseBeat, api.Ask{Kind: api.AskBeat, Member: 1, Gen: 3})
	if len(w.Parts()) != 0 {
		t.Error(w.Parts())
	}
	hear(t, w, api.Reply{})
	at(t, w, api.PhaseSync, api.Ask{Kind: api.AskSync, Member: 1})
}

// to brings a worker into a phase.
func to(t *testing.T, phase int) *worker.Worker {
	t.Helper()
	w := fresh(t, 1, config(), 0)
	replies := []api.Reply{{A: 1, B: 1}, {A: 1}, {A: 1, Nums: []int{0, 1}}, {A: 0}, {}, {L: got(0, rec(1, 1, 1))}, {}, {}, {}, {A: 2}}
	for _, r := range replies {
		if w.Phase() == phase {
			return w
		}
		hear(t, w, r)
	}
	if w.Phase() != phase {
		t.Fatal(w.Phase(), phase)
	}
	return w
}

func TestErrors(t *testing.T) {
	for phase := api.PhaseJoin; phase <= api.PhaseBeat; phase++ {
		for e := api.ErrArg; e <= api.ErrDown+2; e++ {
			want := phase
			switch phase {
			case api.PhaseSync:
				if e == api.ErrMember {
					want = api.PhaseJoin
				}
			case api.PhaseOffset, api.PhaseRestore, api.PhasePoll:
				want = api.PhaseBeat
			case api.PhaseAdd, api.PhasePut, api.PhaseCommit:
				want = api.PhaseInit
			case api.PhaseEnd:
				want = api.PhaseInit
				if e == api.ErrFull {
					want = api.PhaseEnd
				}
			case api.PhaseBeat:
				want = api.PhaseSync
				if e == api.ErrMember {
					want = api.PhaseJoin
				}
			}
			w := to(t, phase)
			hear(t, w, api.Reply{Err: e, A: 5, B: 7, Nums: []int{1}, L: got(0, rec(1, 1, 1))})
			if w.Phase() != want {
				t.Errorf("phase %d, error %d: phase %d, not %d", phase, e, w.Phase(), want)
			}
			if _, n, ok := w.Known(0); ok && n != 0 && phase != api.PhaseBeat {
				t.Error(n)
			}
		}
	}
}

// TestAgain: what a transaction that failed did not write is not written by the next one.
func TestAgain(t *testing.T) {
	for _, phase := range []int{api.PhaseAdd, api.PhasePut, api.PhaseCommit} {
		w := to(t, phase)
		hear(t, w, api.Reply{Err: api.ErrFenced})
		for _, r := range []api.Reply{{A: 5}, {A: 1, Nums: []int{0, 1}}, {A: 0}, {L: got(0, rec(1, 1, 1), rec(1, 1, 1))}} {
			hear(t, w, r)
		}
		at(t, w, api.PhaseAdd, api.Ask{Kind: api.AskAdd, PID: 1, Epoch: 5, Parts: bit + 1<<4})
		hear(t, w, api.Reply{})
		if a, _ := w.Ask(); a.B.Seq != 0 || a.B.Epoch != 5 || len(a.B.L) != 2 {
			t.Error(a)
		}
		hear(t, w, api.Reply{})
		at(t, w, api.PhaseCommit, api.Ask{Kind: api.AskCommit, PID: 1, Epoch: 5, Member: 1, Gen: 1, Off: 2})
	}
}

func TestLeave(t *testing.T) {
	w := fresh(t, 1, config(), 9)
	if a, ok := w.Leave(); !reflect.DeepEqual(a, api.Ask{}) || ok {
		t.Error(a, ok)
	}
	hear(t, w, api.Reply{A: 4, B: 1})
	if a, ok := w.Leave(); !reflect.DeepEqual(a, api.Ask{Kind: api.AskLeave, ID: 10, Member: 4}) || !ok {
		t.Error(a, ok)
	}
	w = fresh(t, 1, config(), api.MaxNum-1)
	hear(t, w, api.Reply{A: 4, B: 1})
	if a, ok := w.Leave(); !reflect.DeepEqual(a, api.Ask{Kind: api.AskLeave, ID: api.MaxNum, Member: 4}) || !ok {
		t.Error(a, ok)
	}
	w = fresh(t, 1, config(), api.MaxNum)
	if a, ok := w.Ask(); a.ID != api.MaxNum || !ok {
		t.Error(a, ok)
	}
	hear(t, w, api.Reply{A: 4, B: 1})
	if a, ok := w.Ask(); !reflect.DeepEqual(a, api.Ask{}) || ok {
		t.Error(a, ok)
	}
	if a, ok := w.Leave(); !reflect.DeepEqual(a, api.Ask{}) || ok {
		t.Error(a, ok)
	}
	w.Hear(api.Reply{ID: api.MaxNum + 1, A: 3})
	if w.Phase() != api.PhaseInit {
		t.Error(w.Phase())
	}
}

func TestNil(t *testing.T) {
	for _, w := range []*worker.Worker{nil, {}} {
		if w.Phase() != 0 || w.Parts() != nil {
			t.Error("nil")
		}
		w.Hear(api.Reply{})
		w.Hear(api.Reply{ID: 1})
		if s, n, ok := w.Known(0); !reflect.DeepEqual(s, api.State{}) || n != 0 || ok {
			t.Error(s, n, ok)
		}
		if a, ok := w.Leave(); !reflect.DeepEqual(a, api.Ask{}) || ok {
			t.Error(a, ok)
		}
	}
	var w *worker.Worker
	if a, ok := w.Ask(); !reflect.DeepEqual(a, api.Ask{}) || ok {
		t.Error(a, ok)
	}
}

func TestMemory(t *testing.T) {
	c := config()
	c.Q.Value = api.Node{Op: api.OpNeg, L: []api.Node{{Op: api.OpValue}}}
	w := polls2(t, c, 0)
	c.Q.Value.L[0] = api.Node{Op: api.OpKey}
	l := got(0, rec(1, 1, 50))
	hear(t, w, api.Reply{L: l})
	l[0].R = rec(9, 9, 9)
	w.Parts()[0] = 77
	hear(t, w, api.Reply{})
	a, _ := w.Ask()
	a.B.L[0].Text, a.B.L[1].Key = "", 55
	b, _ := w.Ask()
	x, e := change.Apply(engine.Zero(), b.B.L[1])
	if e != api.OK || len(x.L) != 1 || x.L[0].A.Sum != -50 || x.L[0].Key != 1 || b.B.L[0].Text == "" || w.Parts()[0] != 0 {
		t.Error(x, e, b)
	}
	for w.Phase() != api.PhaseBeat {
		hear(t, w, api.Reply{})
	}
	s, _, _ := w.Known(0)
	s.L[0].Key = 99
	if s, _, _ = w.Known(0); s.L[0].Key != 1 {
		t.Error(s)
	}
}

// TestNumbers: a reply without an error is taken as one, whatever its numbers are.
func TestNumbers(t *testing.T) {
	for _, n := range []int{-1, -99, 0, api.MaxNum, api.MaxNum + 1, math.MaxInt - 1, math.MinInt} {
		w := to(t, api.PhaseJoin)
		hear(t, w, api.Reply{A: n, B: 3})
		at(t, w, api.PhaseInit, api.Ask{Kind: api.AskInit, PID: 1})
		if a, ok := w.Leave(); ok != (n != 0) || a.Member != n {
			t.Error(n, a, ok)
		}
		hear(t, w, api.Reply{A: n})
		at(t, w, api.PhaseSync, api.Ask{Kind: api.AskSync, Member: n})

		w = to(t, api.PhaseSync)
		hear(t, w, api.Reply{A: n})
		at(t, w, api.PhaseBeat, api.Ask{Kind: api.AskBeat, Member: 1, Gen: n})
		hear(t, w, api.Reply{A: n, B: n, Nums: []int{n}})
		at(t, w, api.PhaseSync, api.Ask{Kind: api.AskSync, Member: 1})

		w = to(t, api.PhaseEnd)
		hear(t, w, api.Reply{A: n})
		at(t, w, api.PhaseBeat, api.Ask{Kind: api.AskBeat, Member: 1, Gen: 1})
		if _, k, ok := w.Known(0); k != 1 || !ok {
			t.Error(n, k, ok)
		}
		for _, r := range []api.Reply{{}, {}, {A: n, B: n}, {L: got(0, rec(1, 1, 1))}} {
			hear(t, w, r)
		}
		at(t, w, api.PhaseAdd, api.Ask{Kind: api.AskAdd, PID: 1, Epoch: n, Parts: bit + 1<<5})
		hear(t, w, api.Reply{A: n, B: n})
		if a, _ := w.Ask(); w.Phase() != api.PhasePut || a.Kind != api.AskPut || a.B.Epoch != n || len(a.B.L) != 2 {
			t.Error(n, w.Phase(), a)
		}
	}
}

// TestGeneration: the generation of a reply to a join is that of the beats that may follow.
func TestGeneration(t *testing.T) {
	for _, n := range []int{-1, 0, api.MaxNum + 1, math.MaxInt, math.MinInt} {
		w := to(t, api.PhaseBeat)
		hear(t, w, api.Reply{Err: api.ErrMember})
		hear(t, w, api.Reply{A: 8, B: n})
		for _, r := range []api.Reply{{A: 1}, {A: n, Nums: []int{1}}, {Err: api.ErrNone}} {
			hear(t, w, r)
		}
		at(t, w, api.PhaseBeat, api.Ask{Kind: api.AskBeat, Member: 8, Gen: n})
	}
}

// TestOffsets: an offset is taken as it is told, and so are the records behind it.
func TestOffsets(t *testing.T) {
	for _, n := range []int{-1, -99, 7, api.MaxNum, api.MaxNum + 1, math.MaxInt - 3, math.MinInt} {
		w := to(t, api.PhaseOffset)
		hear(t, w, api.Reply{A: n, B: n})
		at(t, w, api.PhaseRestore, api.Ask{Kind: api.AskFetch, Part: 4, Most: 16, Yes: true})
		hear(t, w, api.Reply{A: n, B: n})
		at(t, w, api.PhasePoll, api.Ask{Kind: api.AskFetch, Off: n, Most: 16, Yes: true})
		if _, k, ok := w.Known(0); k != n || !ok {
			t.Error(n, k, ok)
		}
		hear(t, w, api.Reply{L: append(got(n, rec(1, 1, 1), rec(1, 1, 1)), got(n, rec(1, 1, 1))...)})
		hear(t, w, api.Reply{})
		hear(t, w, api.Reply{})
		at(t, w, api.PhaseCommit, api.Ask{Kind: api.AskCommit, PID: 1, Epoch: 1, Member: 1, Gen: 1, From: n, Off: n + 2})
		hear(t, w, api.Reply{})
		hear(t, w, api.Reply{A: 2})
		if _, k, ok := w.Known(0); k != n+2 || !ok {
			t.Error(n, k, ok)
		}
	}
	// Behind the greatest integer there is no offset.
	w := to(t, api.PhaseOffset)
	for _, r := range []api.Reply{{A: math.MaxInt}, {}, {L: append(got(math.MaxInt, rec(1, 1, 1)), got(math.MinInt, rec(2, 1, 1))...)}, {}} {
		hear(t, w, r)
	}
	if a, _ := w.Ask(); w.Phase() != api.PhasePut || len(a.B.L) != 2 {
		t.Error(w.Phase(), a)
	}
}

// TestReadsOn: a changelog is read on from where the reply says, if that is between its offset and its end.
func TestReadsOn(t *testing.T) {
	for _, x := range []struct {
		a, b int
		on   bool
	}{
		{1, 2, true}, {1, 1, false}, {0, 9, false}, {-1, 9, false}, {2, 1, false}, {api.MaxNum, api.MaxNum + 1, true}, {api.MaxNum + 1, api.MaxNum + 2, true},
		{math.MaxInt - 1, math.MaxInt, true}, {math.MaxInt, math.MaxInt, false}, {math.MinInt, math.MaxInt, false}, {1, math.MinInt, false},
	} {
		w := to(t, api.PhaseRestore)
		hear(t, w, api.Reply{A: x.a, B: x.b})
		if x.on {
			at(t, w, api.PhaseRestore, api.Ask{Kind: api.AskFetch, Part: 4, Off: x.a, Most: 16, Yes: true})
		} else {
			at(t, w, api.PhasePoll, api.Ask{Kind: api.AskFetch, Most: 16, Yes: true})
		}
	}
}

// replies makes replies of some numbers.
func replies(r *rand.Rand, a api.Ask, some func() int) api.Reply {
	x := api.Reply{ID: a.ID, A: some(), B: some(), Nums: []int{some(), 0, some()}}
	if r.Intn(12) == 0 {
		x.Err = api.Errno(r.Intn(20) - 2)
	}
	if a.Kind == api.AskFetch && a.Part < 2 {
		for k := range r.Intn(30) {
			x.L = append(x.L, api.Got{Off: a.Off + k, R: rec(r.Intn(9), r.Intn(40), r.Intn(300))})
		}
		if r.Intn(4) == 0 {
			x.L = append(x.L, api.Got{Off: a.Off + len(x.L), R: rec(some(), some(), some())})
		}
	}
	return x
}

// TestValid: whatever a worker hears of a broker, whose epochs are not 0 and whose records are below MaxNum, its requests may be.
func TestValid(t *testing.T) {
	r := rand.New(rand.NewSource(1))
	odd := []int{0, 0, 1, 1, 2, 3, 4, 5, 7, api.MaxNum - 40, api.MaxNum - 1, api.MaxNum}
	reached := map[int]int{}
	for round := range 3000 {
		c := config()
		c.Most = 64
		w := fresh(t, 1, c, r.Intn(2)*(api.MaxNum-40))
		n := 4 + round%9
		some := func() int { return odd[r.Intn(n)] }
		for range 60 {
			a, ok := w.Ask()
			if !ok {
				break
			}
			s, e := wire.EncodeAsk(a)
			if back, err := wire.DecodeAsk(s); e != api.OK || err != api.OK || !reflect.DeepEqual(back, a) {
				t.Fatal(a, e)
			}
			reached[w.Phase()]++
			x := replies(r, a, some)
			if w.Phase() == api.PhaseInit || w.Phase() == api.PhaseEnd {
				x.A = max(x.A, 1)
			}
			x.L = slices.DeleteFunc(x.L, func(g api.Got) bool { return g.Off >= api.MaxNum })
			w.Hear(x)
		}
	}
	for phase := api.PhaseJoin; phase <= api.PhaseBeat; phase++ {
		if reached[phase] < 100 {
			t.Error(phase, reached[phase])
		}
	}
}

// TestAny: whatever a worker hears, it goes on, and its requests are those of its phases.
func TestAny(t *testing.T) {
	kinds := []int{0, api.AskJoin, api.AskInit, api.AskSync, api.AskOffset, api.AskFetch, api.AskFetch, api.AskAdd, api.AskPut, api.AskCommit, api.AskEnd, api.AskBeat}
	r := rand.New(rand.NewSource(2))
	odd := []int{0, 1, 2, 3, -1, api.MaxNum, api.MaxNum + 1, math.MaxInt, math.MaxInt - 2, math.MinInt}
	some := func() int { return odd[r.Intn(len(odd))] }
	reached := map[int]int{}
	for range 3000 {
		w := fresh(t, 1, config(), 0)
		for range 60 {
			a, ok := w.Ask()
			if !ok || a.Kind != kinds[w.Phase()] {
				t.Fatal(w.Phase(), a, ok)
			}
			reached[w.Phase()]++
			w.Hear(replies(r, a, some))
		}
	}
	for phase := api.PhaseJoin; phase <= api.PhaseBeat; phase++ {
		if reached[phase] < 100 {
			t.Error(phase, reached[phase])
		}
	}
}

// TestBroker: with a broker that answers, all records are counted, each once.
func TestBroker(t *testing.T) {
	r := rand.New(rand.NewSource(1))
	for range 20 {
		d, _ := disk.New(4000)
		b, _ := broker.Open(d, 2, true)
		var all [2][]api.Record
		w := fresh(t, 1, config(), 0)
		for i := range 400 {
			if i < 200 && r.Intn(4) == 0 {
				p, x := r.Intn(2), rec(r.Intn(3), i/4+r.Intn(15), r.Intn(200)-100)
				b.Handle(api.Ask{Kind: api.AskPut, Part: p, B: api.Batch{Kind: api.Data, L: []api.Record{x}}})
				all[p] = append(all[p], x)
			}
			a, _ := w.Ask()
			x := b.Handle(a)
			if r.Intn(5) > 0 { // an answer may be lost
				w.Hear(x)
			}
		}
		for w.Phase() != api.PhaseBeat || !slices.Equal(b.Offsets().Committed(), []int{len(all[0]), len(all[1])}) {
			a, _ := w.Ask()
			w.Hear(b.Handle(a))
		}
		for p := range 2 {
			s, over, _ := engine.Run(config().G, engine.Zero(), all[p]...)
			var cells []api.Cell
			for off := 0; off < b.Part(2+p).End(); {
				l, next, e := b.Part(2+p).Fetch(off, 32, true)
				if e != api.OK || next == off {
					t.Fatal(e)
				}
				for _, x := range l {
					c, _ := change.In(x.R)
					cells = append(cells, c)
				}
				off = next
			}
			if k, n, ok := w.Known(p); !ok || n != len(all[p]) || !reflect.DeepEqual(k.L, s.L) || k.Mark != s.Mark || k.N != s.N || !slices.Equal(cells, over) {
				t.Fatal(k, n, s)
			}
		}
	}
}
