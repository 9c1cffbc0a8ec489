package broker_test

import (
	"math"
	"math/rand"
	"reflect"
	"slices"
	"strconv"
	"strings"
	"testing"

	"headgate/api"
	"headgate/broker"
	"headgate/disk"
	"headgate/txn"
	"headgate/wire"
)

const bit = 1 << broker.Bit

func fresh(t *testing.T, n int) *disk.Disk {
	t.Helper()
	d, e := disk.New(n)
	if e != api.OK {
		t.Fatal(e)
	}
	return d
}

func open(t *testing.T, d *disk.Disk, parts int) *broker.Broker {
	t.Helper()
	b, e := broker.Open(d, parts, false)
	if e != api.OK || b == nil {
		t.Fatal(e)
	}
	return b
}

// ask asks and checks the answer; with an error nothing else is told.
func ask(t *testing.T, b *broker.Broker, a api.Ask, w api.Reply) {
	t.Helper()
	a.ID = 77
	w.ID = 77
	r := b.Handle(a)
	if !slices.Equal(r.Nums, w.Nums) || !slices.Equal(r.L, w.L) {
		t.Fatalf("%v: %v, not %v", a, r, w)
	}
	r.Nums, r.L, w.Nums, w.L = nil, nil, nil, nil
	if !reflect.DeepEqual(r, w) {
		t.Fatalf("%v: %v, not %v", a, r, w)
	}
}

func fail(t *testing.T, b *broker.Broker, a api.Ask, e api.Errno) {
	t.Helper()
	ask(t, b, a, api.Reply{Err: e})
}

func start(pid int) api.Ask {
	return api.Ask{Kind: api.AskInit, PID: pid}
}

func add(pid, epoch, parts int) api.Ask {
	return api.Ask{Kind: api.AskAdd, PID: pid, Epoch: epoch, Parts: parts}
}

func data(part int, text string) api.Ask {
	return api.Ask{Kind: api.AskPut, Part: part, B: api.Batch{Kind: api.Data, L: []api.Record{{Text: text}}}}
}

func put(part, pid, epoch, seq int, text string) api.Ask {
	return api.Ask{Kind: api.AskPut, Part: part, B: api.Batch{Kind: api.Txn, PID: pid, Epoch: epoch, Seq: seq, L: []api.Record{{Text: text}}}}
}

func commit(pid, epoch, member, gen, part, from, off int) api.Ask {
	return api.Ask{Kind: api.AskCommit, PID: pid, Epoch: epoch, Member: member, Gen: gen, Part: part, From: from, Off: off}
}

func end(pid, epoch int, yes bool) api.Ask {
	return api.Ask{Kind: api.AskEnd, PID: pid, Epoch: epoch, Yes: yes}
}

func fetch(part, off, most int, yes bool) api.Ask {
	return api.Ask{Kind: api.AskFetch, Part: part, Off: off, Most: most, Yes: yes}
}

func got(off int, text string) api.Got {
	return api.Got{Off: off, R: api.Record{Text: text}}
}

func TestName(t *testing.T) {
	for n := 1; n <= 4; n++ {
		for p := range n {
			i := strconv.Itoa(p)
			if broker.Name(n, p) != "in"+i || broker.Name(n, n+p) != "out"+i || broker.Name(n, 2*n+p) != "chg"+i {
				t.Error(n, p)
			}
		}
		if broker.Name(n, -1) != "" || broker.Name(n, 3*n) != "" {
			t.Error(n)
		}
	}
	for _, x := range [][2]int{{0, 0}, {-1, 0}, {5, 0}, {math.MaxInt, 0}, {math.MinInt, -3}} {
		if s := broker.Name(x[0], x[1]); s != "" {
			t.Error(x, s)
		}
	}
}

func TestOpen(t *testing.T) {
	for _, parts := range []int{0, 5, -1} {
		if b, e := broker.Open(fresh(t, 9), parts, false); b != nil || e != api.ErrArg {
			t.Error(e)
		}
	}
	if b, e := broker.Open(nil, 1, true); b != nil || e != api.ErrArg {
		t.Error(e)
	}
	d := fresh(t, 99)
	d.Append("x", "")
	d.Fuse(0)
	d.Sync("x")
	if b, e := broker.Open(d, 1, true); b != nil || e != api.ErrPower {
		t.Error(e)
	}
	for _, name := range []string{"in0", "out0", "chg0", "txn", "offsets"} {
		d := fresh(t, 99)
		d.Append(name+".0000000000000", "torn")
		d.Append(name+".0000000000001", "")
		if b, e := broker.Open(d, 1, true); b != nil || e != api.ErrForm {
			t.Error(name, e)
		}
	}
	b := open(t, fresh(t, 99), 3)
	for p := range 9 {
		if b.Part(p) == nil || b.Part(p) != b.Part(p) {
			t.Error(p)
		}
	}
	if b.Part(-1) != nil || b.Part(9) != nil || b.Coord() == nil || b.Offsets() == nil || b.Group() == nil || b.Off() {
		t.Error("parts")
	}
	// The owners of a sticky group stay.
	for _, sticky := range []bool{true, false} {
		b, _ := broker.Open(fresh(t, 99), 4, sticky)
		for w := 1; w <= 3; w++ {
			ask(t, b, api.Ask{Kind: api.AskJoin, Worker: w}, api.Reply{A: w, B: w})
		}
		ask(t, b, api.Ask{Kind: api.AskLeave, Member: 1}, api.Reply{})
		if w := []int{2, 3, 2, 3}; slices.Equal(b.Group().Owners(), w) != sticky {
			t.Error(sticky, b.Group().Owners())
		}
	}
}

func TestExample(t *testing.T) {
	b := open(t, fresh(t, 1000), 1)
	ask(t, b, start(1), api.Reply{A: 1})
	ask(t, b, add(1, 1, 2+bit), api.Reply{})
	ask(t, b, put(1, 1, 1, 0, "x"), api.Reply{A: 0})
	ask(t, b, put(1, 1, 1, 0, "x"), api.Reply{A: 0, B: 1})
	ask(t, b, fetch(1, 0, 1, true), api.Reply{})
	ask(t, b, fetch(1, 0, 1, false), api.Reply{A: 1, L: []api.Got{got(0, "x")}})
	ask(t, b, end(1, 1, true), api.Reply{A: 2})
	ask(t, b, fetch(1, 0, 1, true), api.Reply{A: 1, B: 2, L: []api.Got{got(0, "x")}})
	ask(t, b, end(1, 1, true), api.Reply{A: 2})
	fail(t, b, end(1, 1, false), api.ErrFenced)
}

func TestAdd(t *testing.T) {
	for n := 1; n <= 4; n++ {
		b := open(t, fresh(t, 1000), n)
		fail(t, b, add(1, 1, 1<<n), api.ErrNone)
		ask(t, b, start(1), api.Reply{A: 1})
		for p := range 15 {
			e := api.ErrArg
			if p >= n && p < 3*n || p == 12 {
				e = api.OK
			}
			fail(t, b, add(1, 1, 1<<p), e)
			fail(t, b, add(1, 1, 1<<p|1), api.ErrArg)
		}
		fail(t, b, add(1, 1, 0), api.ErrArg)
		fail(t, b, add(1, 1, -1), api.ErrArg)
		fail(t, b, add(1, 2, 1<<n), api.ErrFenced)
		fail(t, b, add(9, 2, 1<<n), api.ErrArg)
	}
}

func TestPut(t *testing.T) {
	b := open(t, fresh(t, 1000), 2)
	ask(t, b, data(0, "a"), api.Reply{A: 0})
	ask(t, b, data(0, "a"), api.Reply{A: 1})
	ask(t, b, data(1, "a"), api.Reply{A: 0})
	somebodys := data(1, "b")
	somebodys.B.PID, somebodys.B.Epoch = 3, 1
	ask(t, b, somebodys, api.Reply{A: 1})
	ask(t, b, somebodys, api.Reply{A: 1, B: 1})
	for _, p := range []int{-1, 2, 5, 6, math.MaxInt} {
		fail(t, b, data(p, "a"), api.ErrArg)
	}
	ask(t, b, start(1), api.Reply{A: 1})
	ask(t, b, add(1, 1, 4+8), api.Reply{})
	for _, p := range []int{-1, 0, 1, 6, 12} {
		fail(t, b, put(p, 1, 1, 0, "x"), api.ErrArg)
	}
	fail(t, b, put(4, 1, 1, 0, "x"), api.ErrState)
	fail(t, b, put(2, 1, 2, 0, "x"), api.ErrFenced)
	fail(t, b, put(2, 2, 1, 0, "x"), api.ErrNone)
	fail(t, b, put(2, 1, 1, 1, "x"), api.ErrSeq)
	fail(t, b, put(2, 1, 1, 0, strings.Repeat("x", 513)), api.ErrArg)
	ask(t, b, put(3, 1, 1, 0, "x"), api.Reply{})
	mark := put(3, 1, 1, 0, "x")
	mark.B = api.Batch{Kind: api.Commit, PID: 1, Epoch: 1}
	fail(t, b, mark, api.ErrArg)
	ask(t, b, end(1, 1, false), api.Reply{A: 2})
	fail(t, b, put(3, 1, 1, 1, "x"), api.ErrFenced)
	fail(t, b, put(3, 1, 2, 0, "x"), api.ErrState)
	for _, p := range []int{-1, 6} {
		fail(t, b, fetch(p, 0, 1, true), api.ErrArg)
		fail(t, b, api.Ask{Kind: api.AskOffset, Part: p}, api.ErrArg)
	}
	fail(t, b, fetch(0, 3, 1, true), api.ErrRange)
	fail(t, b, fetch(0, 0, 33, true), api.ErrArg)
	fail(t, b, api.Ask{Kind: api.AskOffset, Part: 2}, api.ErrArg)
	ask(t, b, fetch(0, 1, 9, true), api.Reply{A: 2, B: 2, L: []api.Got{got(1, "a")}})
	for _, kind := range []int{0, 12, -1, math.MaxInt} {
		fail(t, b, api.Ask{Kind: kind}, api.ErrArg)
	}
}

// grouped tells a broker with five records in the input 0, two members of generation 2, and the producer 1 with a transaction.
func grouped(t *testing.T) *broker.Broker {
	t.Helper()
	b := open(t, fresh(t, 1000), 2)
	for i := range 5 {
		ask(t, b, data(0, "a"), api.Reply{A: i})
	}
	ask(t, b, api.Ask{Kind: api.AskJoin, Worker: 1}, api.Reply{A: 1, B: 1})
	ask(t, b, api.Ask{Kind: api.AskJoin, Worker: 2}, api.Reply{A: 2, B: 2})
	ask(t, b, start(1), api.Reply{A: 1})
	ask(t, b, add(1, 1, 4+bit), api.Reply{})
	return b
}

func TestCommit(t *testing.T) {
	b := grouped(t)
	ask(t, b, api.Ask{Kind: api.AskSync, Member: 2}, api.Reply{A: 2, Nums: []int{1}})
	fail(t, b, commit(2, 1, 1, 2, 0, 0, 3), api.ErrNone)
	ask(t, b, start(2), api.Reply{A: 1})
	fail(t, b, commit(2, 1, 1, 2, 0, 0, 3), api.ErrState)
	ask(t, b, add(2, 1, 4), api.Reply{})
	fail(t, b, commit(2, 1, 1, 2, 0, 0, 3), api.ErrState)
	fail(t, b, commit(1, 2, 1, 2, 0, 0, 3), api.ErrFenced)
	fail(t, b, commit(1, 1, 3, 2, 0, 0, 3), api.ErrMember)
	fail(t, b, commit(1, 1, 1, 1, 0, 0, 3), api.ErrStale)
	for _, p := range []int{1, 2, -1} {
		fail(t, b, commit(1, 1, 1, 2, p, 0, 3), api.ErrOwner)
	}
	fail(t, b, commit(1, 1, 1, 2, 0, 0, 6), api.ErrRange)
	fail(t, b, commit(1, 1, 1, 2, 0, 1, 3), api.ErrStale)
	fail(t, b, commit(1, 1, 1, 2, 0, -1, 3), api.ErrArg)
	fail(t, b, commit(1, 1, 1, 2, 0, 0, -1), api.ErrArg)
	ask(t, b, put(2, 1, 1, 0, "y"), api.Reply{}) // its own is no hindrance
	ask(t, b, commit(1, 1, 1, 2, 0, 0, 5), api.Reply{})
	ask(t, b, commit(1, 1, 1, 2, 0, 0, 5), api.Reply{})
	fail(t, b, commit(1, 1, 1, 2, 0, 0, 4), api.ErrState)
	fail(t, b, api.Ask{Kind: api.AskOffset, Part: 0}, api.ErrWait)
	ask(t, b, end(1, 1, true), api.Reply{A: 2})
	ask(t, b, api.Ask{Kind: api.AskOffset, Part: 0}, api.Reply{A: 5})
}

// TestCommitWaits: another producer's transaction in the output or in the changelog of the input comes first.
func TestCommitWaits(t *testing.T) {
	for p := 2; p <= 5; p++ {
		b := grouped(t)
		ask(t, b, start(2), api.Reply{A: 1})
		ask(t, b, add(2, 1, 4+8+16+32), api.Reply{})
		ask(t, b, put(p, 2, 1, 0, "x"), api.Reply{})
		e := api.OK
		if p == 2 || p == 4 {
			e = api.ErrWait
		}
		fail(t, b, commit(1, 1, 1, 2, 0, 0, 6), api.ErrRange)
		fail(t, b, commit(1, 1, 1, 2, 0, 0, 3), e)
		ask(t, b, end(2, 1, true), api.Reply{A: 2})
		ask(t, b, commit(1, 1, 1, 2, 0, 0, 3), api.Reply{})
	}
	// Likewise for the other input, which the other member has.
	for p := 2; p <= 5; p++ {
		b := grouped(t)
		ask(t, b, data(1, "a"), api.Reply{})
		ask(t, b, start(2), api.Reply{A: 1})
		ask(t, b, add(2, 1, 4+8+16+32), api.Reply{})
		ask(t, b, put(p, 2, 1, 0, "x"), api.Reply{})
		e := api.OK
		if p == 3 || p == 5 {
			e = api.ErrWait
		}
		fail(t, b, commit(1, 1, 2, 2, 1, 0, 1), e)
	}
}

func TestGroup(t *testing.T) {
	d := fresh(t, 1000)
	b := open(t, d, 1)
	ask(t, b, api.Ask{Kind: api.AskJoin, Worker: 3}, api.Reply{A: 1, B: 1})
	fail(t, b, api.Ask{Kind: api.AskJoin, Worker: 9}, api.ErrArg)
	fail(t, b, api.Ask{Kind: api.AskSync, Member: 2}, api.ErrMember)
	ask(t, b, api.Ask{Kind: api.AskSync, Member: 1}, api.Reply{A: 1, Nums: []int{0}})
	ask(t, b, api.Ask{Kind: api.AskBeat, Member: 1, Gen: 1}, api.Reply{})
	fail(t, b, api.Ask{Kind: api.AskBeat, Member: 1, Gen: 0}, api.ErrStale)
	fail(t, b, api.Ask{Kind: api.AskLeave, Member: 2}, api.ErrMember)
	ask(t, b, api.Ask{Kind: api.AskLeave, Member: 1}, api.Reply{})
	if gen, next := b.Offsets().Gen(); gen != 2 || next != 2 {
		t.Error(gen, next)
	}
	b = open(t, d, 1)
	if b.Group().Gen() != 2 || b.Group().Next() != 2 {
		t.Error(b.Group().Gen(), b.Group().Next())
	}
	ask(t, b, api.Ask{Kind: api.AskJoin, Worker: 3}, api.Reply{A: 2, B: 3})
	for i := 1; i <= 12; i++ {
		b.Tick()
		gen, _ := b.Offsets().Gen()
		if (gen == 4) != (i == 12) {
			t.Error(i, gen)
		}
	}
}

// TestUnrecorded: a generation that could not be recorded is recorded ahead of what is asked next.
func TestUnrecorded(t *testing.T) {
	d := fresh(t, 1)
	b := open(t, d, 1)
	d.Append("x", "")
	fail(t, b, api.Ask{Kind: api.AskJoin, Worker: 1}, api.ErrFull)
	if b.Group().Gen() != 1 {
		t.Error(b.Group().Gen())
	}
	for _, kind := range []int{api.AskJoin, api.AskSync, api.AskBeat, api.AskLeave, api.AskCommit} {
		fail(t, b, api.Ask{Kind: kind, Worker: 1, Member: 1, Gen: 1}, api.ErrFull)
	}
	if b.Group().Gen() != 1 {
		t.Error(b.Group().Gen())
	}
	d.Remove("x")
	ask(t, b, api.Ask{Kind: api.AskSync, Member: 1}, api.Reply{A: 1, Nums: []int{0}})
	if gen, next := b.Offsets().Gen(); gen != 1 || next != 2 {
		t.Error(gen, next)
	}
}

func TestInit(t *testing.T) {
	d := fresh(t, 1000)
	b := open(t, d, 1)
	for _, pid := range []int{0, 9, -1} {
		fail(t, b, start(pid), api.ErrArg)
	}
	ask(t, b, start(4), api.Reply{A: 1})
	ask(t, b, add(4, 1, 2), api.Reply{})
	ask(t, b, put(1, 4, 1, 0, "x"), api.Reply{})
	ask(t, b, start(4), api.Reply{A: 3}) // what was ongoing is given up at 2
	if l := b.Part(1).Gones(); !slices.Equal(l, []api.Gone{{PID: 4, First: 0, Last: 1}}) {
		t.Error(l)
	}
	fail(t, b, put(1, 4, 1, 1, "x"), api.ErrFenced)
	// A transaction that is decided is settled as it was decided.
	ask(t, b, add(4, 3, 2), api.Reply{})
	ask(t, b, put(1, 4, 3, 0, "y"), api.Reply{A: 2})
	if _, e := b.Coord().End(4, 3, true); e != api.OK {
		t.Error(e)
	}
	ask(t, b, start(4), api.Reply{A: 5})
	ask(t, b, fetch(1, 0, 9, true), api.Reply{A: 4, B: 4, L: []api.Got{got(2, "y")}})
}

// decided tells a broker with a transaction of producer 1 that is decided, and open in two partitions and the offsets.
func decided(t *testing.T, d *disk.Disk, yes bool) *broker.Broker {
	t.Helper()
	b := open(t, d, 1)
	ask(t, b, data(0, "r"), api.Reply{})
	ask(t, b, api.Ask{Kind: api.AskJoin, Worker: 1}, api.Reply{A: 1, B: 1})
	ask(t, b, start(1), api.Reply{A: 1})
	ask(t, b, add(1, 1, 2+4+bit), api.Reply{})
	ask(t, b, put(1, 1, 1, 0, "x"), api.Reply{})
	ask(t, b, put(2, 1, 1, 0, "y"), api.Reply{})
	ask(t, b, commit(1, 1, 1, 1, 0, 0, 1), api.Reply{})
	if done, e := b.Coord().End(1, 1, yes); done || e != api.OK {
		t.Fatal(e)
	}
	return b
}

func row(b *broker.Broker) api.Trans {
	r, _ := txn.Row(b.Coord().Rows(), 1)
	return r
}

// TestSettleRoom: three parts are left, so that ten blocks, and as many files, have to be free.
func TestSettleRoom(t *testing.T) {
	for free := 8; free <= 11; free++ {
		d := fresh(t, 200)
		b := decided(t, d, true)
		d.Append("x", strings.Repeat("x", 64*(d.Free()-free)))
		before := d.Files()
		e := api.OK
		if free < 10 {
			e = api.ErrFull
		}
		c, err := broker.Open(d.Copy(), 1, false)
		if err != api.OK || (row(c).State == api.Empty) != (free >= 10) {
			t.Error(free, err, row(c))
		}
		for range 3 {
			c.Tick()
		}
		if r := b.Handle(end(1, 1, true)); r.Err != e {
			t.Error(free, r)
		}
		if e == api.OK {
			continue
		}
		fail(t, b, start(1), api.ErrFull)
		b.Tick()
		if !slices.Equal(d.Files(), before) || row(b).State != api.Commits {
			t.Error(free, row(b))
		}
		d.Truncate("x", 64)
		b.Tick()
		if row(b).State != api.Empty || row(b).Last != api.Commit || b.Offsets().Committed()[0] != 1 {
			t.Error(free, row(b))
		}
		ask(t, b, end(1, 1, true), api.Reply{A: 2})
	}
	for free := 8; free <= 11; free++ {
		d := fresh(t, 1000)
		b := decided(t, d, true)
		for i := len(d.Files()); i < api.MaxFiles-free; i++ {
			d.Append("x"+strconv.Itoa(i), "")
		}
		w := api.Reply{A: 2}
		if free < 10 {
			w = api.Reply{Err: api.ErrFull}
		}
		ask(t, b, end(1, 1, true), w)
	}
	// A transaction without anything left needs four.
	for free := 3; free <= 4; free++ {
		d := fresh(t, 100)
		b := open(t, d, 1)
		ask(t, b, start(1), api.Reply{A: 1})
		ask(t, b, add(1, 1, 2+4+bit), api.Reply{})
		d.Append("x", strings.Repeat("x", 64*(d.Free()-free)))
		w := api.Reply{A: 2}
		if free < 4 {
			w = api.Reply{Err: api.ErrFull}
		}
		ask(t, b, end(1, 1, true), w)
	}
}

// TestSettlePower: wherever the power fails, a transaction that was decided is at its end when the broker is open again.
func TestSettlePower(t *testing.T) {
	for _, yes := range []bool{true, false} {
		for fuse := range 9 {
			for keep := range 2 {
				d := fresh(t, 200)
				b := decided(t, d, yes)
				d.Fuse(fuse)
				r := b.Handle(end(1, 1, yes))
				if (r.Err == api.OK) != (fuse >= 8) || r.Err != api.OK && r.Err != api.ErrPower {
					t.Error(fuse, r)
				}
				if r.Err == api.ErrPower {
					if !b.Off() {
						t.Error("it is on")
					}
					fail(t, b, start(1), api.ErrPower)
					fail(t, b, api.Ask{Kind: 99}, api.ErrPower)
					b.Tick()
				}
				d.Crash(999*keep, 999*keep, 999*keep, 999*keep, 999*keep, 999*keep)
				b = open(t, d, 1)
				kind, off, l := api.Abort, 0, []api.Got{}
				if yes {
					kind, off = api.Commit, 1
					l = []api.Got{got(0, "x")}
				}
				if x := row(b); x != (api.Trans{PID: 1, Epoch: 2, State: api.Empty, Last: kind}) {
					t.Error(x)
				}
				ask(t, b, fetch(1, 0, 9, true), api.Reply{A: 2, B: 2, L: l})
				ask(t, b, api.Ask{Kind: api.AskOffset}, api.Reply{A: off})
				if len(b.Part(2).Opens()) != 0 || len(b.Offsets().Pends()) != 0 {
					t.Error(b.Part(2).Opens(), b.Offsets().Pends())
				}
				ask(t, b, end(1, 1, yes), api.Reply{A: 2})
			}
		}
	}
}

// TestOpenPower: Open tells that the power failed while it settled.
func TestOpenPower(t *testing.T) {
	d := fresh(t, 200)
	decided(t, d, true)
	for fuse := range 5 + 8 {
		c := d.Copy()
		c.Fuse(fuse)
		if b, e := broker.Open(c, 1, false); b != nil || e != api.ErrPower {
			t.Error(fuse, e)
		}
	}
	d.Fuse(5 + 8)
	if b, e := broker.Open(d, 1, false); b == nil || e != api.OK {
		t.Error(e)
	}
}

func TestTick(t *testing.T) {
	d := fresh(t, 1000)
	b := open(t, d, 1)
	ask(t, b, start(1), api.Reply{A: 1})
	ask(t, b, add(1, 1, 2), api.Reply{})
	ask(t, b, put(1, 1, 1, 0, "x"), api.Reply{})
	for i := 1; i <= 10; i++ {
		b.Tick()
		if (row(b).State == api.Empty) != (i == 10) {
			t.Error(i, row(b))
		}
	}
	if x := row(b); x.Epoch != 2 || x.Last != api.Abort || len(b.Part(1).Gones()) != 1 {
		t.Error(x)
	}
}

func TestNil(t *testing.T) {
	var b *broker.Broker
	fail(t, b, start(1), api.ErrArg)
	b.Tick()
	if !b.Off() || b.Part(0) != nil || b.Coord() != nil || b.Offsets() != nil || b.Group() != nil {
		t.Error("nil")
	}
	z := &broker.Broker{}
	z.Handle(start(1))
	z.Tick()
}

// TestAny: whatever is asked, the answer is a valid reply, and with an error nothing is changed but what may be.
func TestAny(t *testing.T) {
	r := rand.New(rand.NewSource(1))
	for range 60 {
		d := fresh(t, 60+r.Intn(300))
		b := open(t, d, 2)
		for range 300 {
			a := api.Ask{Kind: 1 + r.Intn(11), ID: r.Intn(99), PID: r.Intn(4), Epoch: r.Intn(5), Parts: r.Intn(1<<13) &^ 3, Part: r.Intn(7), Member: r.Intn(5), Gen: r.Intn(6), From: r.Intn(2), Off: r.Intn(4), Most: 1 + r.Intn(4), Worker: 1 + r.Intn(3), Yes: r.Intn(2) == 0}
			if a.Kind == api.AskPut {
				a = put(a.Part, a.PID, a.Epoch, r.Intn(3), strings.Repeat("t", r.Intn(99)))
				if a.Part < 2 {
					a = data(a.Part, "d")
				}
			}
			if x, e := txn.Row(b.Coord().Rows(), a.PID); e == api.OK && r.Intn(3) > 0 {
				a.Epoch = x.Epoch
				a.B.Epoch = max(a.B.Epoch, min(x.Epoch, a.B.PID*999))
			}
			if r.Intn(40) == 0 {
				d.Fuse(r.Intn(9))
			}
			before, gen := tell(b), b.Group().Gen()
			x := b.Handle(a)
			if s, e := wire.EncodeReply(x); s == "" || e != api.OK || x.ID != a.ID {
				t.Fatal(a, x)
			}
			free := a.Kind == api.AskInit || a.Kind == api.AskEnd || b.Group().Gen() != gen
			if x.Err != api.OK && x.Err != api.ErrPower && !free && !reflect.DeepEqual(tell(b), before) {
				t.Fatal(a, x, before, tell(b))
			}
			if b.Off() {
				d.Crash(r.Intn(99), r.Intn(99), r.Intn(99), r.Intn(99), r.Intn(99), r.Intn(99), r.Intn(99))
				b = open(t, d, 2)
			}
		}
	}
}

// tell tells what is to be seen of a broker.
func tell(b *broker.Broker) []any {
	l := []any{b.Coord().Rows(), b.Offsets().Committed(), b.Offsets().Pends(), b.Group().Members(), b.Group().Owners()}
	for p := range 6 {
		x := b.Part(p)
		l = append(l, x.End(), x.Stable(), x.Prods(), x.Opens(), x.Gones())
	}
	return l
}
