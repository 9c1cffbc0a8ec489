package audit_test

import (
	"reflect"
	"slices"
	"testing"

	"headgate/api"
	"headgate/audit"
	"headgate/broker"
	"headgate/change"
	"headgate/cluster"
	"headgate/disk"
	"headgate/engine"
	"headgate/fold"
	"headgate/part"
	"headgate/varint"
)

func config() api.Config {
	return api.Config{Parts: 1, Workers: 1, Blocks: 4000, Most: 5, G: api.Grid{Size: 10, Hop: 10}}
}

func rec(key, time, v int) api.Record {
	return api.Record{Key: key, Time: time, Text: varint.Put(v)}
}

func out(key, start int, values ...int) api.Record {
	r, _ := change.Out(api.Cell{Key: key, Start: start, A: fold.All(values...)})
	return r
}

func fresh(t *testing.T, c api.Config) *cluster.Cluster {
	t.Helper()
	x, e := cluster.New(c)
	if e != api.OK {
		t.Fatal(e)
	}
	return x
}

func input(t *testing.T, x *cluster.Cluster, n int, l ...api.Record) {
	t.Helper()
	if e := x.Do(api.Step{Kind: api.StepInput, N: n, L: l}); e != api.OK {
		t.Fatal(e)
	}
}

func look(t *testing.T, x *cluster.Cluster, c api.Config, w ...audit.Line) {
	t.Helper()
	l, e := audit.Look(x, c)
	if !slices.Equal(l, w) || e != api.OK {
		t.Fatalf("%v %d, not %v", l, e, w)
	}
}

func TestWant(t *testing.T) {
	c := config()
	l, s, e := audit.Want(c, rec(1, 3, 5), rec(2, 4, 6), rec(1, 12, 7), rec(1, 4, 9))
	if !slices.Equal(l, []api.Record{out(1, 0, 5), out(2, 0, 6)}) || e != api.OK {
		t.Error(l, e)
	}
	if !reflect.DeepEqual(s, api.State{Mark: 12, Late: 1, N: 4, L: []api.Cell{{Key: 1, Start: 10, A: fold.All(7)}}}) {
		t.Error(s)
	}
	c.Q.When = api.Node{Op: api.OpGt, L: []api.Node{{Op: api.OpValue}, {Op: api.OpNumber, N: 5}}}
	l, s, e = audit.Want(c, rec(1, 3, 5), rec(2, 4, 6), rec(1, 12, 7), rec(1, 4, 9))
	if !slices.Equal(l, []api.Record{out(2, 0, 6)}) || s.N != 3 || e != api.OK {
		t.Error(l, s, e)
	}
	l, s, e = audit.Want(c)
	if len(l) != 0 || !reflect.DeepEqual(s, engine.Zero()) || e != api.OK {
		t.Error(l, s, e)
	}
	for _, x := range []struct {
		c api.Config
		r api.Record
	}{{api.Config{}, rec(1, 1, 1)}, {config(), rec(1, -1, 1)}, {config(), api.Record{Key: -1, Text: "\x80"}}} {
		l, s, e := audit.Want(x.c, rec(1, 1, 1), rec(1, 50, 1), x.r)
		if l != nil || !reflect.DeepEqual(s, api.State{}) || e != api.ErrArg {
			t.Error(l, s, e)
		}
	}
}

func TestRead(t *testing.T) {
	d, _ := disk.New(2000)
	p, _ := part.Open(d, "p")
	if l, e := audit.Read(p); len(l) != 0 || e != api.OK {
		t.Error(l, e)
	}
	var w []api.Record
	for i := range 100 {
		w = append(w, rec(i, 1, 1), rec(i, 2, 1))
		p.Put(api.Batch{Kind: api.Data, L: w[len(w)-2:]})
	}
	p.Put(api.Batch{Kind: api.Txn, PID: 1, Epoch: 1, L: []api.Record{rec(1, 1, 7)}})
	for range 2 {
		if l, e := audit.Read(p); !slices.Equal(l, w) || e != api.OK {
			t.Error(len(l), e)
		}
		p.Put(api.Batch{Kind: api.Data, L: w[:1]}) // it stands behind what is open
	}
	p.Mark(1, 1, true)
	if l, e := audit.Read(p); len(l) != 203 || e != api.OK {
		t.Error(len(l), e)
	}
	d.Fuse(0)
	d.Sync("p.0000000000000")
	if l, e := audit.Read(p); l != nil || e != api.ErrPower {
		t.Error(l, e)
	}
	if l, e := audit.Read(nil); l != nil || e != api.ErrArg {
		t.Error(l, e)
	}
}

func TestExample(t *testing.T) {
	c := config()
	x := fresh(t, c)
	look(t, x, c, audit.Line{Sound: true})
	input(t, x, 0, rec(1, 3, 5), rec(1, 12, 7))
	look(t, x, c, audit.Line{Records: 2, Sound: true})
	if _, ok := x.Rest(60); !ok {
		t.Fatal("no rest")
	}
	look(t, x, c, audit.Line{Records: 2, Committed: 2, Over: 1, Sound: true})
	l, e := audit.Lines(x.Broker(), c)
	if !slices.Equal(l, []audit.Line{{Records: 2, Committed: 2, Over: 1, Sound: true}}) || e != api.OK {
		t.Error(l, e)
	}
	// Of a broker that is down, what there will be is told.
	x.Do(api.Step{Kind: api.StepCrash})
	before := x.Disk().Files()
	look(t, x, c, audit.Line{Records: 2, Committed: 2, Over: 1, Sound: true})
	x.Do(api.Step{Kind: api.StepFuse, N: 0})
	x.Do(api.Step{Kind: api.StepStart})
	look(t, x, c, audit.Line{Records: 2, Committed: 2, Over: 1, Sound: true})
	if !slices.Equal(x.Disk().Files(), before) || x.Up(0) {
		t.Error("looking changed something")
	}
}

func TestLinesWrong(t *testing.T) {
	c := config()
	c.Parts = 2
	x := fresh(t, c)
	for i, f := range []func(c *api.Config){func(c *api.Config) { c.Parts = 1 }, func(c *api.Config) { c.Parts = 3 }, func(c *api.Config) { c.Most = 0 }, func(c *api.Config) { c.Parts = -1 }, func(c *api.Config) { *c = api.Config{} }} {
		bad := c
		f(&bad)
		if l, e := audit.Lines(x.Broker(), bad); l != nil || e != api.ErrArg {
			t.Errorf("%d: %v %d", i, l, e)
		}
		if l, e := audit.Look(x, bad); l != nil || e != api.ErrArg || audit.Sound(x, bad) {
			t.Errorf("%d: %v %d", i, l, e)
		}
	}
	if l, e := audit.Lines(nil, c); l != nil || e != api.ErrArg {
		t.Error(l, e)
	}
	if l, e := audit.Look(nil, c); l != nil || e != api.ErrArg || audit.Sound(nil, c) {
		t.Error(l, e)
	}
	d, _ := disk.New(100)
	b, _ := broker.Open(d, 1, false)
	b.Handle(api.Ask{Kind: api.AskPut, B: api.Batch{Kind: api.Data, L: []api.Record{rec(1, 1, 1)}}})
	d.Fuse(0)
	d.Sync("in0.0000000000000")
	if l, e := audit.Lines(b, config()); l != nil || e != api.ErrPower {
		t.Error(l, e)
	}
}

// TestUnsound spoils what a broker has, in all ways that are to be seen.
func TestUnsound(t *testing.T) {
	// A transaction of producer 8 writes records and commits an offset.
	spoil := func(b *broker.Broker, p, off int, l ...api.Record) {
		c := b.Coord()
		epoch, _ := c.Init(8)
		c.Add(8, epoch, 1<<p|1<<broker.Bit)
		if len(l) > 0 {
			b.Part(p).Put(api.Batch{Kind: api.Txn, PID: 8, Epoch: epoch, L: l})
		}
		b.Offsets().Pend(8, epoch, 0, b.Offsets().Committed()[0], off)
		b.Handle(api.Ask{Kind: api.AskEnd, PID: 8, Epoch: epoch, Yes: true})
	}
	state := func(n int) []api.Record {
		_, s, _ := audit.Want(config(), rec(1, 3, 5), rec(1, 12, 7), rec(1, 13, 8))
		s.N = n
		return change.Diff(engine.Zero(), s)
	}
	for i, x := range []struct {
		f func(b *broker.Broker)
		w audit.Line
	}{
		{func(b *broker.Broker) {}, audit.Line{Records: 3, Committed: 0, Sound: true}},
		{func(b *broker.Broker) { spoil(b, 1, 3) }, audit.Line{Records: 3, Committed: 3}},
		{func(b *broker.Broker) { spoil(b, 1, 4) }, audit.Line{Records: 3, Committed: 4}},
		{func(b *broker.Broker) { spoil(b, 1, 0, out(1, 0, 5)) }, audit.Line{Records: 3, Over: 1}},
		{func(b *broker.Broker) { spoil(b, 2, 0, state(3)...) }, audit.Line{Records: 3}},
		{func(b *broker.Broker) { spoil(b, 2, 3, state(3)...) }, audit.Line{Records: 3, Committed: 3}},
		{func(b *broker.Broker) { spoil(b, 2, 3, state(3)...); spoil(b, 1, 3, out(1, 0, 5)) }, audit.Line{Records: 3, Committed: 3, Over: 1, Sound: true}},
		{func(b *broker.Broker) { spoil(b, 2, 3, state(4)...); spoil(b, 1, 3, out(1, 0, 5)) }, audit.Line{Records: 3, Committed: 3, Over: 1}},
		{func(b *broker.Broker) { spoil(b, 2, 3, state(3)...); spoil(b, 1, 3, out(1, 0, 6)) }, audit.Line{Records: 3, Committed: 3, Over: 1}},
		{func(b *broker.Broker) { spoil(b, 2, 3, state(3)...); spoil(b, 1, 3, out(1, 0, 5), out(1, 0, 5)) }, audit.Line{Records: 3, Committed: 3, Over: 2}},
		{func(b *broker.Broker) { spoil(b, 2, 2, state(3)...); spoil(b, 1, 2, out(1, 0, 5)) }, audit.Line{Records: 3, Committed: 2, Over: 1}},
		{func(b *broker.Broker) {
			spoil(b, 2, 3, state(3)...)
			spoil(b, 2, 3, rec(1, 1, 1))
			spoil(b, 1, 3, out(1, 0, 5))
		}, audit.Line{Records: 3, Committed: 3, Over: 1}},
	} {
		c := config()
		y := fresh(t, c)
		input(t, y, 0, rec(1, 3, 5), rec(1, 12, 7), rec(1, 13, 8))
		x.f(y.Broker())
		l, e := audit.Look(y, c)
		if !slices.Equal(l, []audit.Line{x.w}) || e != api.OK || audit.Sound(y, c) != x.w.Sound {
			t.Errorf("%d: %v %d, not %v", i, l, e, x.w)
		}
	}
	// With other windows, nothing is as it has to be.
	c := config()
	x := fresh(t, c)
	input(t, x, 0, rec(1, 3, 5), rec(1, 7, 5), rec(1, 12, 7))
	x.Rest(60)
	c.G.Size, c.G.Hop = 5, 5
	if audit.Sound(x, c) {
		t.Error("it is sound")
	}
}
