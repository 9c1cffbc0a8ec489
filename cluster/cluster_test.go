package cluster_test

import (
	"math"
	"math/rand"
	"reflect"
	"slices"
	"testing"

	"headgate/api"
	"headgate/cluster"
	"headgate/varint"
	"headgate/wire"
)

func config() api.Config {
	return api.Config{Parts: 2, Workers: 2, Blocks: 4000, Most: 5, G: api.Grid{Size: 10, Hop: 10}}
}

func fresh(t *testing.T, c api.Config) *cluster.Cluster {
	t.Helper()
	x, e := cluster.New(c)
	if x == nil || e != api.OK {
		t.Fatal(e)
	}
	return x
}

func do(t *testing.T, x *cluster.Cluster, w api.Errno, kind, n int) {
	t.Helper()
	if e := x.Do(api.Step{Kind: kind, N: n}); e != w {
		t.Fatalf("step %d %d: %d, not %d", kind, n, e, w)
	}
}

func rec(key, time, v int) api.Record {
	return api.Record{Key: key, Time: time, Text: varint.Put(v)}
}

func input(t *testing.T, x *cluster.Cluster, n int, l ...api.Record) {
	t.Helper()
	if e := x.Do(api.Step{Kind: api.StepInput, N: n, L: l}); e != api.OK {
		t.Fatal(e)
	}
}

// waits tells the request that the packet at a place has.
func waits(t *testing.T, x *cluster.Cluster, place int) api.Ask {
	t.Helper()
	a, e := wire.DecodeAsk(x.Packets()[place].S)
	if e != api.OK {
		t.Fatal(e)
	}
	return a
}

func TestNew(t *testing.T) {
	c := config()
	c.Most = 0
	if x, e := cluster.New(c); x != nil || e != api.ErrArg {
		t.Error(e)
	}
	x := fresh(t, config())
	for n := -1; n <= 4; n++ {
		up := n >= 0 && n <= 2
		if x.Up(n) != up || (x.Worker(n) != nil) != (up && n > 0) {
			t.Error(n, x.Up(n))
		}
	}
	if x.Broker() == nil || len(x.Packets()) != 0 || x.Disk().Free() != 4000 {
		t.Error("it is not fresh")
	}
	for n := 1; n <= 2; n++ {
		if a, ok := x.Worker(n).Ask(); !ok || a.ID != n<<20 || a.Worker != n {
			t.Error(a, ok)
		}
	}
}

func TestExample(t *testing.T) {
	c := config()
	c.Parts, c.Workers = 1, 1
	x := fresh(t, c)
	input(t, x, 0, rec(1, 3, 5))
	if k, ok := x.Rest(50); !ok || k == 0 || k == 50 || !slices.Equal(x.Broker().Offsets().Committed(), []int{1}) {
		t.Error(k, ok)
	}
	if k, ok := x.Rest(0); k != 0 || !ok {
		t.Error(k, ok)
	}
	if k, ok := x.Rest(9); k != 0 || !ok {
		t.Error(k, ok)
	}
	input(t, x, 0, rec(1, 3, 5))
	if k, ok := x.Rest(0); k != 0 || ok {
		t.Error(k, ok)
	}
	if k, ok := x.Rest(1); k != 1 || ok {
		t.Error(k, ok)
	}
}

func TestSteps(t *testing.T) {
	x := fresh(t, config())
	for _, n := range []int{-1, 2, math.MaxInt} {
		do(t, x, api.ErrArg, api.StepInput, n)
	}
	do(t, x, api.ErrArg, api.StepInput, 0) // there are no records
	for _, kind := range []int{0, 13, -1, math.MinInt} {
		do(t, x, api.ErrArg, kind, 0)
	}
	for _, kind := range []int{api.StepServe, api.StepKill, api.StepBegin, api.StepLeave} {
		for _, n := range []int{0, 3, -1, math.MaxInt} {
			do(t, x, api.ErrArg, kind, n)
		}
	}
	for _, kind := range []int{api.StepDeliver, api.StepDrop, api.StepTwice} {
		for _, n := range []int{0, -1, math.MaxInt} {
			do(t, x, api.ErrRange, kind, n)
		}
	}
	do(t, x, api.ErrState, api.StepBegin, 1)
	do(t, x, api.ErrState, api.StepStart, 0)
	do(t, x, api.OK, api.StepKill, 2)
	do(t, x, api.ErrDown, api.StepKill, 2)
	do(t, x, api.ErrDown, api.StepLeave, 2)
	do(t, x, api.ErrDown, api.StepServe, 2)
	if x.Up(2) || x.Worker(2) != nil {
		t.Error("it is up")
	}
	do(t, x, api.OK, api.StepBegin, 2)
	if a, _ := x.Worker(2).Ask(); a.ID != 3<<20 {
		t.Error(a)
	}
	// Worker 1 joins, its request comes twice.
	do(t, x, api.OK, api.StepServe, 1)
	do(t, x, api.OK, api.StepTwice, 0)
	do(t, x, api.OK, api.StepServe, 2)
	do(t, x, api.OK, api.StepDrop, 2)
	if l := x.Packets(); len(l) != 2 || l[1].S != l[0].S || l[1].From != 1 || l[1].To != 0 || l[1].N != 2 {
		t.Error(l)
	}
	do(t, x, api.OK, api.StepDeliver, 1)
	do(t, x, api.OK, api.StepDeliver, 0)
	if l := x.Packets(); len(l) != 2 || l[0].To != 1 || l[0].From != 0 || x.Broker().Group().Gen() != 2 {
		t.Error(l)
	}
	do(t, x, api.OK, api.StepDeliver, 1)
	do(t, x, api.OK, api.StepDeliver, 0) // this is not awaited any more
	if x.Worker(1).Phase() != api.PhaseInit || len(x.Packets()) != 0 {
		t.Error(x.Worker(1).Phase())
	}
	// What comes for one that is down is lost.
	do(t, x, api.OK, api.StepServe, 1)
	do(t, x, api.OK, api.StepDeliver, 0)
	do(t, x, api.OK, api.StepKill, 1)
	do(t, x, api.ErrDown, api.StepDeliver, 0)
	if len(x.Packets()) != 0 {
		t.Error(x.Packets())
	}
}

func TestLeave(t *testing.T) {
	x := fresh(t, config())
	do(t, x, api.OK, api.StepLeave, 2)
	if x.Up(2) || len(x.Packets()) != 0 {
		t.Error("one that is no member has nothing to say")
	}
	for range 3 {
		do(t, x, api.OK, api.StepServe, 1)
		do(t, x, api.OK, api.StepDeliver, 0)
		do(t, x, api.OK, api.StepDeliver, 0)
	}
	do(t, x, api.OK, api.StepLeave, 1)
	if a := waits(t, x, 0); x.Up(1) || a.Kind != api.AskLeave || a.Member != 2 && a.Member != 1 {
		t.Error(a)
	}
	do(t, x, api.OK, api.StepDeliver, 0)
	if len(x.Broker().Group().Members()) != 0 {
		t.Error(x.Broker().Group().Members())
	}
	do(t, x, api.ErrDown, api.StepDeliver, 0)
}

// TestNoBytes: a request that may not be, since its worker heard numbers that no broker gives, is not sent.
func TestNoBytes(t *testing.T) {
	x := fresh(t, config())
	for n := 1; n <= 2; n++ {
		w := x.Worker(n)
		a, _ := w.Ask()
		w.Hear(api.Reply{ID: a.ID, A: -1, B: 1})
		w.Hear(api.Reply{ID: a.ID + 1, A: 1})
	}
	do(t, x, api.ErrArg, api.StepServe, 1)
	do(t, x, api.ErrArg, api.StepLeave, 2)
	if !x.Up(1) || x.Up(2) || len(x.Packets()) != 0 {
		t.Error(x.Up(1), x.Up(2), x.Packets())
	}
	input(t, x, 0, rec(1, 1, 1))
	if k, ok := x.Rest(50); k == 0 || !ok || !x.Up(2) {
		t.Error(k, ok) // the other worker does it all
	}
}

func TestMailFull(t *testing.T) {
	x := fresh(t, config())
	for range api.MaxMail {
		do(t, x, api.OK, api.StepServe, 1)
	}
	do(t, x, api.ErrFull, api.StepServe, 1)
	do(t, x, api.ErrFull, api.StepTwice, 3)
	do(t, x, api.OK, api.StepDeliver, 0)
	if len(x.Packets()) != api.MaxMail {
		t.Error(len(x.Packets()))
	}
	do(t, x, api.OK, api.StepDeliver, 255)
	do(t, x, api.OK, api.StepServe, 1)
	do(t, x, api.ErrFull, api.StepLeave, 1)
	if x.Up(1) {
		t.Error("it is up")
	}
	input(t, x, 0, rec(1, 1, 1))
	if k, ok := x.Rest(50); k == 0 || !ok || len(x.Packets()) != 0 || !x.Up(1) {
		t.Error(k, ok)
	}
}

func TestPower(t *testing.T) {
	x := fresh(t, config())
	do(t, x, api.OK, api.StepFuse, 1)
	if e := x.Do(api.Step{Kind: api.StepInput, L: []api.Record{rec(1, 1, 1)}}); e != api.ErrPower || x.Up(0) || x.Broker() != nil || !x.Disk().Off() {
		t.Error(e)
	}
	do(t, x, api.OK, api.StepServe, 1)
	do(t, x, api.ErrDown, api.StepDeliver, 0)
	do(t, x, api.ErrDown, api.StepInput, 0)
	do(t, x, api.ErrArg, api.StepInput, 2)
	do(t, x, api.OK, api.StepTick, 0)
	if e := x.Do(api.Step{Kind: api.StepStart, Keep: []int{99}}); e != api.OK || x.Broker().Part(0).End() != 1 {
		t.Error(e)
	}
	// What the broker is asked when its power fails is not answered.
	do(t, x, api.OK, api.StepServe, 1)
	do(t, x, api.OK, api.StepFuse, 0)
	do(t, x, api.ErrPower, api.StepDeliver, 0)
	if len(x.Packets()) != 0 || x.Up(0) {
		t.Error(x.Packets())
	}
	do(t, x, api.OK, api.StepStart, 0)
	// A tick may find the power failing, too.
	do(t, x, api.OK, api.StepServe, 1)
	do(t, x, api.OK, api.StepDeliver, 0)
	for range 11 {
		do(t, x, api.OK, api.StepTick, 0)
	}
	do(t, x, api.OK, api.StepFuse, 0)
	do(t, x, api.OK, api.StepTick, 0)
	if x.Up(0) {
		t.Error("it is up")
	}
	do(t, x, api.OK, api.StepStart, 0)
	// A fuse of an open that fails.
	do(t, x, api.OK, api.StepCrash, 0)
	if x.Up(0) || x.Disk().Off() {
		t.Error("the power is on, and the broker down")
	}
	do(t, x, api.OK, api.StepFuse, 0)
	do(t, x, api.ErrPower, api.StepStart, 0)
	if x.Up(0) || !x.Disk().Off() {
		t.Error("it is up")
	}
	do(t, x, api.OK, api.StepStart, 0)
	// A rest, even of no rounds, takes the fuse away.
	for _, rounds := range []int{-1, 0} {
		do(t, x, api.OK, api.StepFuse, 3)
		if k, ok := x.Rest(rounds); k != 0 || ok && rounds < 0 {
			t.Error(k, ok)
		}
		for range 9 {
			input(t, x, 1, rec(1, 1, 1))
		}
	}
}

// TestKeep: a crash keeps what it is told to, and a start does so only if the power is off.
func TestKeep(t *testing.T) {
	for _, keep := range []int{0, 99} {
		x := fresh(t, config())
		do(t, x, api.OK, api.StepFuse, 1)
		if e := x.Do(api.Step{Kind: api.StepInput, L: []api.Record{rec(1, 1, 1)}}); e != api.ErrPower {
			t.Error(e)
		}
		x.Do(api.Step{Kind: api.StepCrash, Keep: []int{keep}})
		if f := x.Disk().Files(); x.Disk().Off() || f[0].Loose != "" || (f[0].Sure != "") != (keep > 0) {
			t.Error(f)
		}
		do(t, x, api.OK, api.StepStart, 0)
		if n := x.Broker().Part(0).End(); n != min(keep, 1) {
			t.Error(n)
		}
	}
}

// TestNumbers: at the end of all numbers a worker has no request any more, and none starts.
func TestNumbers(t *testing.T) {
	c := config()
	c.Workers = 1
	x := fresh(t, c)
	for range 1<<20 - 1 {
		x.Do(api.Step{Kind: api.StepKill, N: 1})
		x.Do(api.Step{Kind: api.StepBegin, N: 1})
	}
	do(t, x, api.OK, api.StepServe, 1)
	if a := waits(t, x, 0); a.ID != api.MaxNum {
		t.Fatal(a)
	}
	do(t, x, api.OK, api.StepDeliver, 0)
	do(t, x, api.OK, api.StepDeliver, 0)
	do(t, x, api.ErrRange, api.StepServe, 1)
	do(t, x, api.OK, api.StepLeave, 1)
	do(t, x, api.ErrArg, api.StepBegin, 1)
	if x.Up(1) || len(x.Packets()) != 0 {
		t.Error(x.Packets())
	}
}

func TestCrash(t *testing.T) {
	x := fresh(t, config())
	input(t, x, 0, rec(1, 1, 1))
	d := x.Disk()
	d.Append("in0.0000000000000", "torn")
	if s, _ := x.Disk().Read("in0.0000000000000"); len(s) == 0 || s[len(s)-1] == 'n' {
		t.Error("the disk is no copy")
	}
	do(t, x, api.OK, api.StepCrash, 0)
	do(t, x, api.OK, api.StepCrash, 0)
	do(t, x, api.OK, api.StepStart, 0)
	if x.Broker().Part(0).End() != 1 {
		t.Error("what was synced is gone")
	}
}

func TestRest(t *testing.T) {
	x := fresh(t, config())
	for i := range 40 {
		input(t, x, i%2, rec(i%3, i, i))
	}
	do(t, x, api.OK, api.StepFuse, 3)
	do(t, x, api.OK, api.StepKill, 1)
	do(t, x, api.OK, api.StepCrash, 0)
	k, ok := x.Rest(500)
	if !ok || k == 0 || !x.Up(0) || !x.Up(1) || !x.Up(2) || len(x.Packets()) != 0 {
		t.Error(k, ok)
	}
	if !slices.Equal(x.Broker().Offsets().Committed(), []int{20, 20}) || len(x.Broker().Coord().Todo()) != 0 {
		t.Error(x.Broker().Offsets().Committed())
	}
	// Where there is no room, nothing comes to its end.
	c := config()
	c.Blocks = 4
	x = fresh(t, c)
	input(t, x, 0, rec(1, 1, 1))
	if k, ok := x.Rest(30); k != 30 || ok {
		t.Error(k, ok)
	}
}

// TestBeats: in each tenth round there is a tick, by the tenth of which a transaction is given up that nobody ends.
func TestBeats(t *testing.T) {
	for _, first := range []int{0, 9, 10, 95, 99} {
		x := fresh(t, config())
		if _, e := x.Broker().Coord().Init(8); e != api.OK {
			t.Fatal(e)
		}
		if e := x.Broker().Coord().Add(8, 1, 1<<2); e != api.OK {
			t.Fatal(e)
		}
		if k, ok := x.Rest(first); k != first || ok {
			t.Error(k, ok)
		}
		// The rounds are counted anew.
		if k, ok := x.Rest(500); k != 100-first/10*10 || !ok {
			t.Error(first, k, ok)
		}
	}
}

func TestNil(t *testing.T) {
	var x *cluster.Cluster
	do(t, x, api.ErrArg, api.StepTick, 0)
	if k, ok := x.Rest(5); k != 0 || ok {
		t.Error(k, ok)
	}
	if x.Up(0) || x.Up(1) || x.Broker() != nil || x.Worker(1) != nil || x.Packets() != nil || x.Disk() != nil {
		t.Error("nil")
	}
	z := &cluster.Cluster{}
	for kind := range 14 {
		z.Do(api.Step{Kind: kind})
	}
}

func TestMemory(t *testing.T) {
	c := config()
	c.Q.Value = api.Node{Op: api.OpAdd, L: []api.Node{{Op: api.OpValue}, {Op: api.OpNumber, N: 1}}}
	x := fresh(t, c)
	c.Q.Value.L[1].N = 50
	do(t, x, api.OK, api.StepKill, 1)
	do(t, x, api.OK, api.StepBegin, 1)
	l := []api.Record{rec(1, 1, 1)}
	input(t, x, 0, l...)
	l[0].Key = 9
	if _, ok := x.Rest(99); !ok {
		t.Fatal("no rest")
	}
	for n := 1; n <= 2; n++ {
		if s, _, ok := x.Worker(n).Known(0); ok && (len(s.L) != 1 || s.L[0].Key != 1 || s.L[0].A.Sum != 2) {
			t.Error(s)
		}
	}
}

// random tells some step.
func random(r *rand.Rand) api.Step {
	s := api.Step{Kind: []int{1, 2, 2, 2, 2, 3, 3, 3, 3, 3, 3, 4, 5, 6, 7, 8, 9, 9, 10, 11, 11, 12}[r.Intn(22)], N: r.Intn(4)}
	switch s.Kind {
	case api.StepInput:
		for range 1 + r.Intn(3) {
			s.L = append(s.L, rec(r.Intn(3), r.Intn(60), r.Intn(300)-100))
		}
	case api.StepFuse:
		s.N = r.Intn(12) - 1
	case api.StepCrash, api.StepStart:
		for range r.Intn(9) {
			s.Keep = append(s.Keep, r.Intn(200))
		}
	}
	return s
}

// TestAlways: the same steps come to the same, and whatever happened, a rest comes to its end.
func TestAlways(t *testing.T) {
	r := rand.New(rand.NewSource(1))
	for range 60 {
		c := config()
		c.Sticky = r.Intn(2) == 0
		x, y := fresh(t, c), fresh(t, c)
		records := 0
		for range 300 {
			s := random(r)
			e := x.Do(s)
			if f := y.Do(s); f != e || !slices.Equal(x.Packets(), y.Packets()) || !reflect.DeepEqual(x.Disk().Files(), y.Disk().Files()) {
				t.Fatal(s, e, f)
			}
			if s.Kind == api.StepInput && e == api.OK {
				records += len(s.L)
			}
			for n := range 3 {
				if x.Up(n) != y.Up(n) {
					t.Fatal(n)
				}
			}
		}
		k, ok := x.Rest(3000)
		if !ok {
			t.Fatal(k)
		}
		all := 0
		for p, n := range x.Broker().Offsets().Committed() {
			if n != x.Broker().Part(p).End() {
				t.Fatal(p, n)
			}
			all += n
		}
		if all < records {
			t.Fatal(all, records)
		}
	}
}
