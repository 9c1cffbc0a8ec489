package audit_test

import (
	"math/rand"
	"reflect"
	"slices"
	"testing"

	"headgate/api"
	"headgate/audit"
	"headgate/broker"
	"headgate/change"
	"headgate/cluster"
	"headgate/engine"
	"headgate/txn"
	"headgate/wire"
)

// These tests are of the promises T3 to T11: of random scripts, behind each of whose steps all is looked at.

// script is a cluster, and what was put into its inputs and acknowledged.
type script struct {
	r     *rand.Rand
	c     api.Config
	x     *cluster.Cluster
	acked [][]api.Record
	low   []int
}

func begin(t *testing.T, seed int64, blocks int) *script {
	t.Helper()
	r := rand.New(rand.NewSource(seed))
	hop := 5 + r.Intn(6)
	c := api.Config{Parts: 1 + r.Intn(3), Workers: 1 + r.Intn(3), Blocks: blocks, Most: 1 + r.Intn(8), G: api.Grid{Size: hop * (1 + r.Intn(2)), Hop: hop, Late: r.Intn(9)}, Sticky: r.Intn(2) == 0}
	if r.Intn(3) == 0 {
		c.Q.When = api.Node{Op: api.OpGt, L: []api.Node{{Op: api.OpValue}, {Op: api.OpNumber, N: 20}}}
		c.Q.Key = api.Node{Op: api.OpMod, L: []api.Node{{Op: api.OpKey}, {Op: api.OpNumber, N: 2}}}
	}
	s := &script{r: r, c: c, x: fresh(t, c), low: make([]int, c.Parts), acked: make([][]api.Record, c.Parts)}
	return s
}

// step tells some step.
func (s *script) step() api.Step {
	r := s.r
	kinds := []int{1, 1, 2, 2, 2, 2, 2, 2, 3, 3, 3, 3, 3, 3, 3, 3, 3, 3, 3, 4, 5, 6, 7, 8, 9, 9, 9, 10, 11, 11, 11, 12}
	x := api.Step{Kind: kinds[r.Intn(len(kinds))], N: r.Intn(4)}
	switch x.Kind {
	case api.StepInput:
		x.N = r.Intn(s.c.Parts)
		for range 1 + r.Intn(4) {
			y := rec(r.Intn(3), len(s.acked[x.N])/2+r.Intn(25), r.Intn(300)-100)
			if r.Intn(15) == 0 {
				y.Text = "\x80"
			}
			x.L = append(x.L, y)
		}
	case api.StepServe:
		x.N = 1 + r.Intn(s.c.Workers)
	case api.StepFuse:
		x.N = r.Intn(25) - 1
	case api.StepCrash, api.StepStart:
		for range r.Intn(12) {
			x.Keep = append(x.Keep, r.Intn(120))
		}
	}
	return x
}

// do does some step, and looks at what promises T3, T8, T10 and T11 say.
func (s *script) do(t *testing.T) {
	t.Helper()
	x := s.step()
	e := s.x.Do(x)
	if x.Kind == api.StepInput && e == api.OK {
		s.acked[x.N] = append(s.acked[x.N], x.L...)
	}
	lines, e := audit.Look(s.x, s.c)
	if e != api.OK || len(lines) != s.c.Parts || !audit.Sound(s.x, s.c) {
		t.Fatal(lines, e)
	}
	for p, l := range lines {
		if !l.Sound || l.Committed < s.low[p] || l.Committed > l.Records || l.Records < len(s.acked[p]) {
			t.Fatal(x, l, s.low[p], len(s.acked[p]))
		}
		s.low[p] = l.Committed
	}
	if b := s.x.Broker(); b != nil {
		s.told(t, b, lines)
		owners(t, b)
	}
}

// told looks at the lines by hand: T11 and T3.
func (s *script) told(t *testing.T, b *broker.Broker, lines []audit.Line) {
	t.Helper()
	for p, l := range lines {
		in, _ := audit.Read(b.Part(p))
		out, _ := audit.Read(b.Part(s.c.Parts + p))
		changes, _ := audit.Read(b.Part(2*s.c.Parts + p))
		committed := b.Offsets().Committed()[p]
		if l.Records != len(in) || l.Over != len(out) || l.Committed != committed {
			t.Fatal(l, len(in), len(out), committed)
		}
		want, state, e := audit.Want(s.c, in[:committed]...)
		got, f := change.Restore(s.c.G, changes...)
		if e != api.OK || f != api.OK || !slices.Equal(out, want) || !slices.Equal(got.L, state.L) || got.N != state.N || got.Mark != state.Mark {
			t.Fatal("it is not sound, though it was told so")
		}
		// What was acknowledged is there, in order (T8).
		k := 0
		for _, r := range in {
			if k < len(s.acked[p]) && r == s.acked[p][k] {
				k++
			}
		}
		if k < len(s.acked[p]) {
			t.Fatal("a record is lost")
		}
	}
}

// owners: of a partition, one member at most may commit (T10).
func owners(t *testing.T, b *broker.Broker) {
	t.Helper()
	g := b.Group()
	for p, owner := range g.Owners() {
		may := 0
		for id := range g.Next() + 1 {
			for gen := max(0, g.Gen()-2); gen <= g.Gen()+1; gen++ {
				if g.May(id, gen, p) == api.OK {
					may++
					if id != owner || gen != g.Gen() {
						t.Fatal(id, gen, owner)
					}
				}
			}
		}
		if may > 1 || may == 0 && len(g.Members()) > 0 {
			t.Fatal(may)
		}
	}
}

// finish comes to the end of a rest, and looks at what promises T5 and T6 say.
func (s *script) finish(t *testing.T) {
	t.Helper()
	if k, ok := s.x.Rest(3000); !ok {
		t.Fatal("no end", k)
	}
	lines, _ := audit.Look(s.x, s.c)
	for p, l := range lines {
		if !l.Sound || l.Committed != l.Records || l.Records < len(s.acked[p]) {
			t.Fatal(l)
		}
		s.once(t, p)
	}
	if len(s.x.Broker().Coord().Todo()) > 0 {
		t.Fatal(s.x.Broker().Coord().Todo())
	}
}

// once: each record that passes is counted in one window, or late, or bad; of windows that do not overlap.
func (s *script) once(t *testing.T, p int) {
	t.Helper()
	if s.c.G.Hop != s.c.G.Size {
		return
	}
	b := s.x.Broker()
	changes, _ := audit.Read(b.Part(2*s.c.Parts + p))
	state, e := change.Restore(s.c.G, changes...)
	if e != api.OK {
		t.Fatal(e)
	}
	n := state.Late + state.Bad
	for _, c := range state.L {
		n += c.A.Count
	}
	out, _ := audit.Read(b.Part(s.c.Parts + p))
	for _, r := range out {
		c, e := change.In(r)
		if e != api.OK {
			t.Fatal(e)
		}
		n += c.A.Count
	}
	if n != state.N || s.c.Q.When.Op == 0 && n != b.Part(p).End() {
		t.Fatal(n, state.N, b.Part(p).End())
	}
}

// TestExact is T3, T5, T6, T8, T10 and T11.
func TestExact(t *testing.T) {
	for seed := range int64(60) {
		s := begin(t, seed, 6000)
		for range 250 {
			s.do(t)
		}
		s.finish(t)
	}
}

// TestFull is T4: on a disk that is full nothing is lost, and nothing comes twice.
func TestFull(t *testing.T) {
	full := 0
	for seed := range int64(80) {
		s := begin(t, 1000+seed, 5+int(seed)/2)
		for range 300 {
			s.do(t)
		}
		if _, ok := s.x.Rest(400); !ok {
			full++
		}
		s.do(t)
	}
	if full < 40 {
		t.Error(full)
	}
}

// TestFenced is T7.
func TestFenced(t *testing.T) {
	tried := 0
	for seed := range int64(60) {
		s := begin(t, 2000+seed, 6000)
		for range 200 {
			s.do(t)
			b := s.x.Broker()
			if b == nil {
				continue
			}
			s.x.Do(api.Step{Kind: api.StepFuse, N: -1})
			a := s.stranger(b)
			before := committed(s.x, s.c)
			rows := b.Coord().Rows()
			if r := b.Handle(a); r.Err == api.OK && a.Kind == api.AskCommit {
				t.Fatal(a, r)
			}
			if !reflect.DeepEqual(committed(s.x, s.c), before) || !reflect.DeepEqual(b.Coord().Rows(), rows) {
				t.Fatal(a)
			}
			tried++
		}
		s.finish(t)
	}
	if tried < 1000 {
		t.Error(tried)
	}
}

// stranger tells a request of an older epoch or generation, or of no member.
func (s *script) stranger(b *broker.Broker) api.Ask {
	r := s.r
	pid, part := 1+r.Intn(s.c.Workers), r.Intn(s.c.Parts)
	row, _ := txn.Row(b.Coord().Rows(), pid)
	g := b.Group()
	from := b.Offsets().Committed()[part]
	a := api.Ask{Kind: api.AskCommit, PID: pid, Epoch: row.Epoch, Member: g.Owners()[part], Gen: g.Gen(), Part: part, From: from, Off: b.Part(part).End()}
	switch r.Intn(4) {
	case 0:
		a.Epoch = r.Intn(row.Epoch + 1)
		if a.Epoch == row.Epoch {
			a.Epoch = row.Epoch + 1
		}
	case 1:
		a.Gen = r.Intn(g.Gen()+1) - 1
	case 2:
		a.Member = g.Next() + r.Intn(2)
	case 3:
		// What ended already may be ended again; an epoch ahead of it may not.
		a = api.Ask{Kind: api.AskEnd, PID: pid, Epoch: max(0, row.Epoch-1-r.Intn(3)), Yes: r.Intn(2) == 0}
	}
	return a
}

// committed tells all that is committed.
func committed(x *cluster.Cluster, c api.Config) []any {
	b := x.Broker()
	l := []any{b.Offsets().Committed(), b.Offsets().Pends()}
	for p := range 3 * c.Parts {
		some, _ := audit.Read(b.Part(p))
		l = append(l, some)
	}
	return l
}

// TestLasts is T8: wherever the power fails in a transaction, and whatever is kept, it is whole or not there.
func TestLasts(t *testing.T) {
	c := config()
	c.Workers = 1
	for fuse := range 70 {
		for _, keep := range []int{0, 1, 20, 9999} {
			x := fresh(t, c)
			input(t, x, 0, rec(1, 3, 5), rec(2, 4, 6), rec(1, 12, 7))
			x.Do(api.Step{Kind: api.StepFuse, N: fuse})
			for range 14 {
				x.Do(api.Step{Kind: api.StepServe, N: 1})
				for len(x.Packets()) > 0 {
					x.Do(api.Step{Kind: api.StepDeliver})
				}
			}
			if x.Up(0) {
				x.Do(api.Step{Kind: api.StepCrash, Keep: slices.Repeat([]int{keep}, 9)})
			}
			if e := x.Do(api.Step{Kind: api.StepStart, Keep: slices.Repeat([]int{keep}, 9)}); e != api.OK {
				t.Fatal(fuse, keep, e)
			}
			b := x.Broker()
			if b.Part(0).End() != 3 || len(b.Coord().Todo()) > 0 || !audit.Sound(x, c) {
				t.Fatal(fuse, keep, b.Coord().Todo())
			}
			if _, ok := x.Rest(300); !ok || !audit.Sound(x, c) || b.Offsets().Committed()[0] != 3 {
				t.Fatal(fuse, keep)
			}
		}
	}
}

// TestTotal is T9: any bytes are no request, or they are answered, and with an error nothing is changed.
func TestTotal(t *testing.T) {
	read := 0
	for seed := range int64(40) {
		s := begin(t, 3000+seed, 3000)
		for range 120 {
			s.do(t)
			b := s.x.Broker()
			if b == nil || len(s.x.Packets()) == 0 {
				continue
			}
			s.x.Do(api.Step{Kind: api.StepFuse, N: -1})
			text := []byte(s.x.Packets()[s.r.Intn(len(s.x.Packets()))].S)
			for range s.r.Intn(4) {
				text[s.r.Intn(len(text))] = byte(s.r.Intn(40))
			}
			a, e := wire.DecodeAsk(string(text))
			if e != api.OK {
				if e != api.ErrForm {
					t.Fatal(e)
				}
				continue
			}
			read++
			files, rows, gen := s.x.Disk().Files(), b.Coord().Rows(), b.Group().Gen()
			r := b.Handle(a)
			if _, e := wire.EncodeReply(r); e != api.OK || r.ID != a.ID {
				t.Fatal(a, r)
			}
			if r.Err == api.OK || a.Kind == api.AskInit || a.Kind == api.AskEnd || b.Group().Gen() != gen {
				s.acked = make([][]api.Record, s.c.Parts) // somebody else's records may be among them now
				continue
			}
			if !slices.Equal(s.x.Disk().Files(), files) || !slices.Equal(b.Coord().Rows(), rows) {
				t.Fatal(a, r)
			}
		}
	}
	if read < 300 {
		t.Error(read)
	}
}

// TestState: the state that a changelog restores is what a worker goes on from.
func TestState(t *testing.T) {
	c := config()
	x := fresh(t, c)
	var all []api.Record
	for i := range 30 {
		all = append(all, rec(i%3, i, i))
		input(t, x, 0, all[i])
		x.Do(api.Step{Kind: api.StepKill, N: 1}) // each worker begins anew
		if _, ok := x.Rest(60); !ok {
			t.Fatal(i)
		}
	}
	want, _, _ := engine.Run(c.G, engine.Zero(), all...)
	s, n, ok := x.Worker(1).Known(0)
	if !ok || n != 30 || !reflect.DeepEqual(s, want) || !audit.Sound(x, c) {
		t.Error(s, n, ok)
	}
}
