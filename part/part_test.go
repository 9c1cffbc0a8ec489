package part_test

import (
	"math"
	"math/rand"
	"slices"
	"strconv"
	"strings"
	"testing"

	"headgate/api"
	"headgate/batch"
	"headgate/disk"
	"headgate/frame"
	"headgate/part"
)

func fresh(t *testing.T, n int) *disk.Disk {
	t.Helper()
	d, e := disk.New(n)
	if e != api.OK {
		t.Fatal(e)
	}
	return d
}

func open(t *testing.T, d *disk.Disk) *part.Part {
	t.Helper()
	p, e := part.Open(d, "p")
	if e != api.OK || p == nil {
		t.Fatal(e)
	}
	return p
}

func records(texts ...string) []api.Record {
	var l []api.Record
	for _, s := range texts {
		l = append(l, api.Record{Text: s})
	}
	return l
}

func data(texts ...string) api.Batch {
	return api.Batch{Kind: api.Data, L: records(texts...)}
}

func txn(pid, epoch, seq int, texts ...string) api.Batch {
	return api.Batch{Kind: api.Txn, PID: pid, Epoch: epoch, Seq: seq, L: records(texts...)}
}

func put(t *testing.T, p *part.Part, b api.Batch, w int, here bool) {
	t.Helper()
	if off, h, e := p.Put(b); off != w || h != here || e != api.OK {
		t.Fatalf("Put: %d %v %d, not %d %v", off, h, e, w, here)
	}
}

func refuse(t *testing.T, p *part.Part, b api.Batch, w api.Errno) {
	t.Helper()
	end := p.End()
	if off, h, e := p.Put(b); off != 0 || h || e != w || p.End() != end {
		t.Fatalf("Put: %d %v %d, not %d", off, h, e, w)
	}
}

func end(t *testing.T, p *part.Part, pid, epoch int, yes bool, w api.Errno) {
	t.Helper()
	if e := p.Mark(pid, epoch, yes); e != w {
		t.Fatalf("Mark(%d, %d, %v) = %d, not %d", pid, epoch, yes, e, w)
	}
}

// see checks what is fetched: texts with their offsets, and where to go on.
func see(t *testing.T, p *part.Part, off, most int, committed bool, w string, next int) {
	t.Helper()
	l, n, e := p.Fetch(off, most, committed)
	if s := told(l); s != w || n != next || e != api.OK {
		t.Fatalf("Fetch(%d, %d, %v) = %s %d %d, not %s %d", off, most, committed, s, n, e, w, next)
	}
}

func told(l []api.Got) string {
	var w []string
	for _, g := range l {
		w = append(w, strconv.Itoa(g.Off)+g.R.Text)
	}
	return strings.Join(w, " ")
}

func TestExample(t *testing.T) {
	p := open(t, fresh(t, 100))
	put(t, p, txn(1, 1, 0, "x"), 0, false)
	see(t, p, 0, 9, true, "", 0)
	see(t, p, 0, 9, false, "0x", 1)
	end(t, p, 1, 1, true, api.OK)
	see(t, p, 0, 9, true, "0x", 2)
}

func TestTransactions(t *testing.T) {
	d := fresh(t, 1000)
	p := open(t, d)
	put(t, p, data("a"), 0, false)
	put(t, p, txn(1, 1, 0, "b", "c"), 1, false)
	put(t, p, txn(1, 1, 0, "b", "c"), 1, true)
	put(t, p, txn(2, 4, 0, "d"), 3, false)
	put(t, p, data("e"), 4, false)
	put(t, p, api.Batch{Kind: api.Data, PID: 3, Epoch: 1, L: records("f")}, 5, false)
	put(t, p, txn(1, 1, 2, "g"), 6, false)
	if l := p.Opens(); !slices.Equal(l, []api.Open{{PID: 1, First: 1}, {PID: 2, First: 3}}) || p.Stable() != 1 {
		t.Error(l, p.Stable())
	}
	see(t, p, 0, 9, true, "0a", 1)
	see(t, p, 1, 9, true, "", 1)
	see(t, p, 2, 9, true, "", 2)
	see(t, p, 0, 9, false, "0a 1b 2c 3d 4e 5f 6g", 7)
	see(t, p, 2, 2, false, "2c 3d", 4)
	end(t, p, 1, 1, false, api.OK) // 7
	if l := p.Gones(); !slices.Equal(l, []api.Gone{{PID: 1, First: 1, Last: 7}}) || p.Stable() != 3 {
		t.Error(l, p.Stable())
	}
	end(t, p, 1, 1, true, api.OK) // there is none
	end(t, p, 3, 1, true, api.OK)
	end(t, p, 4, 1, true, api.OK)
	if p.End() != 8 {
		t.Error(p.End())
	}
	see(t, p, 0, 9, true, "0a", 3)
	end(t, p, 2, 4, true, api.OK) // 8
	if len(p.Opens()) != 0 || p.Stable() != 9 {
		t.Error(p.Opens(), p.Stable())
	}
	see(t, p, 0, 9, true, "0a 3d 4e 5f", 9)
	see(t, p, 0, 9, false, "0a 1b 2c 3d 4e 5f 6g", 9)
	see(t, p, 0, 3, true, "0a 3d", 4)
	see(t, p, 4, 1, true, "4e", 5)
	see(t, p, 7, 9, true, "", 9)
	see(t, p, 9, 9, true, "", 9)
	put(t, p, txn(1, 2, 0, "h"), 9, false) // of a later transaction of the same producer
	end(t, p, 1, 2, true, api.OK)
	see(t, p, 5, 9, true, "5f 9h", 11)
	want := []api.Prod{{PID: 1, Epoch: 2, Seq: 0, N: 1, Base: 9}, {PID: 2, Epoch: 4, Seq: 0, N: 1, Base: 3}, {PID: 3, Epoch: 1, Seq: 0, N: 1, Base: 5}}
	for range 2 {
		if l := p.Prods(); !slices.Equal(l, want) {
			t.Error(l)
		}
		if l := p.Gones(); !slices.Equal(l, []api.Gone{{PID: 1, First: 1, Last: 7}}) {
			t.Error(l)
		}
		see(t, p, 0, 32, true, "0a 3d 4e 5f 9h", 11)
		p = open(t, d)
	}
}

func TestPutWrong(t *testing.T) {
	p := open(t, fresh(t, 100))
	put(t, p, txn(1, 3, 0, "x"), 0, false)
	refuse(t, p, txn(1, 2, 0, "x"), api.ErrFenced)
	refuse(t, p, txn(1, 3, 2, "x"), api.ErrSeq)
	refuse(t, p, txn(1, 3, 0, "x", "y"), api.ErrSeq)
	refuse(t, p, txn(1, 3, 1), api.ErrArg)
	refuse(t, p, api.Batch{Kind: api.Commit, PID: 1, Epoch: 3}, api.ErrArg)
	refuse(t, p, api.Batch{Kind: api.Abort, PID: 1, Epoch: 3}, api.ErrArg)
	refuse(t, p, api.Batch{}, api.ErrArg)
	end(t, p, 1, 0, true, api.ErrArg)
	end(t, p, 0, 1, true, api.ErrArg)
	end(t, p, 9, 1, false, api.ErrArg)
	end(t, p, 1, api.MaxNum+1, false, api.ErrArg)
	end(t, p, math.MinInt, math.MinInt, false, api.ErrArg)
	end(t, p, 1, 2, true, api.ErrFenced)
	end(t, p, 1, 4, false, api.OK) // of a later epoch
	refuse(t, p, txn(1, 3, 1, "y"), api.ErrFenced)
	put(t, p, txn(1, 4, 0, "y"), 2, false)
	for _, x := range []struct {
		off, most int
		e         api.Errno
	}{{0, 0, api.ErrArg}, {0, 33, api.ErrArg}, {-1, 1, api.ErrRange}, {4, 1, api.ErrRange}, {-1, 0, api.ErrArg}} {
		if l, n, e := p.Fetch(x.off, x.most, true); l != nil || n != 0 || e != x.e {
			t.Error(x, l, n, e)
		}
	}
}

func TestOpenWrong(t *testing.T) {
	for _, name := range []string{"", "P"} {
		if p, e := part.Open(fresh(t, 9), name); p != nil || e != api.ErrArg {
			t.Error(e)
		}
	}
	if p, e := part.Open(nil, "p"); p != nil || e != api.ErrArg {
		t.Error(e)
	}
	good, _ := batch.Encode(data("a", "b"))
	for _, x := range []struct {
		n    int
		text string
		e    api.Errno
	}{{2, good, api.OK}, {1, good, api.ErrForm}, {3, good, api.ErrForm}, {2, good + "\x00", api.ErrForm}, {1, "", api.ErrForm}} {
		d := fresh(t, 9)
		s, _ := frame.Lay(api.Entry{N: x.n, Text: x.text})
		d.Append("p.0000000000000", s)
		p, e := part.Open(d, "p")
		if e != x.e || (p == nil) != (e != api.OK) {
			t.Error(x, e)
		}
	}
	d := fresh(t, 9)
	put(t, open(t, d), data("a"), 0, false)
	d.Fuse(0)
	if p, e := part.Open(d, "p"); p != nil || e != api.ErrPower {
		t.Error(e)
	}
}

// TestPower: what a failed sync leaves.
func TestPower(t *testing.T) {
	for fuse := range 3 {
		for _, keep := range []int{0, 99} {
			d := fresh(t, 100)
			p := open(t, d)
			put(t, p, txn(1, 1, 0, "a"), 0, false)
			d.Fuse(fuse)
			off, here, e := p.Put(txn(1, 1, 1, "b"))
			if fuse == 2 {
				if off != 1 || here || e != api.OK {
					t.Error(off, here, e)
				}
				continue
			}
			if off != 0 || here || e != api.ErrPower || p.End() != 1+fuse {
				t.Error(fuse, off, here, e, p.End())
			}
			if l := p.Prods(); len(l) != 1 || l[0].Seq != 0 {
				t.Error(l)
			}
			refuse(t, p, txn(1, 1, 1, "b"), api.ErrPower)
			refuse(t, p, api.Batch{}, api.ErrPower)
			end(t, p, 1, 1, true, api.ErrPower)
			end(t, p, 1, 0, true, api.ErrArg)
			if _, _, e := p.Fetch(0, 1, true); e != api.ErrPower {
				t.Error(e)
			}
			d.Crash(keep)
			p = open(t, d)
			put(t, p, txn(1, 1, 1, "b"), 1, keep > 0)
			see(t, p, 0, 9, false, "0a 1b", 2)
		}
	}
	d := fresh(t, 100)
	p := open(t, d)
	put(t, p, txn(1, 1, 0, "a"), 0, false)
	d.Fuse(1)
	end(t, p, 1, 1, false, api.ErrPower)
	if len(p.Opens()) != 1 || len(p.Gones()) != 0 || p.Stable() != 0 || p.End() != 2 {
		t.Error(p.Opens(), p.Gones(), p.Stable(), p.End())
	}
}

func TestFull(t *testing.T) {
	p := open(t, fresh(t, 1))
	put(t, p, txn(1, 1, 0, "a"), 0, false)
	long := strings.Repeat("x", 99)
	refuse(t, p, txn(1, 1, 1, long), api.ErrFull)
	put(t, p, txn(1, 1, 1, "b"), 1, false)
	end(t, p, 1, 1, true, api.OK)
	for {
		if _, _, e := p.Put(data("")); e != api.OK {
			break
		}
	}
	refuse(t, p, data(""), api.ErrFull)
	put(t, p, txn(1, 1, 1, "b"), 1, true)
}

func TestNil(t *testing.T) {
	for _, p := range []*part.Part{nil, {}} {
		refuse(t, p, data("a"), api.ErrArg)
		end(t, p, 1, 1, true, api.ErrArg)
		if l, n, e := p.Fetch(0, 1, true); l != nil || n != 0 || e != api.ErrArg {
			t.Error(l, n, e)
		}
		if p.Stable() != 0 || p.End() != 0 || p.Prods() != nil || p.Opens() != nil || p.Gones() != nil {
			t.Error("nil")
		}
	}
}

func TestOwnMemory(t *testing.T) {
	p := open(t, fresh(t, 100))
	put(t, p, txn(1, 1, 0, "a"), 0, false)
	end(t, p, 1, 1, false, api.OK)
	put(t, p, txn(1, 2, 0, "a"), 2, false)
	p.Prods()[0].PID, p.Opens()[0].PID, p.Gones()[0].PID = 7, 7, 7
	if p.Prods()[0].PID != 1 || p.Opens()[0].PID != 1 || p.Gones()[0].PID != 1 {
		t.Error("results share memory with the partition")
	}
}

// note is a batch or a mark that was stored.
type note struct {
	b   api.Batch
	off int
}

// committed tells, in the plainest way, what is to be read as committed.
func committed(l []note) string {
	stable := math.MaxInt
	last := map[int]int{}
	fate := make([]int, len(l)) // of each batch: the kind of its mark
	for i := len(l) - 1; i >= 0; i-- {
		b := l[i].b
		switch b.Kind {
		case api.Commit, api.Abort:
			last[b.PID] = b.Kind
		case api.Txn:
			fate[i] = last[b.PID]
			if fate[i] == 0 {
				stable = l[i].off
			}
		}
	}
	var got []api.Got
	for i, x := range l {
		if x.off >= stable {
			break
		}
		for k, r := range x.b.L {
			if x.b.Kind == api.Data || fate[i] == api.Commit {
				got = append(got, api.Got{Off: x.off + k, R: r})
			}
		}
	}
	return told(got)
}

func TestModel(t *testing.T) {
	r := rand.New(rand.NewSource(1))
	for range 150 {
		d := fresh(t, 2000)
		p := open(t, d)
		var l []note
		epoch, seq := [4]int{1, 1, 1, 1}, [4]int{}
		for range 60 {
			pid := 1 + r.Intn(3)
			switch r.Intn(7) {
			case 0, 1, 2:
				b := txn(pid, epoch[pid], seq[pid], strings.Repeat("t", r.Intn(60)), "u")
				off, here, e := p.Put(b)
				if here || e != api.OK || off != offset(l) {
					t.Fatal(off, here, e)
				}
				put(t, p, b, off, true)
				seq[pid] += len(b.L)
				l = append(l, note{b, off})
			case 3:
				b := data("d")
				put(t, p, b, offset(l), false)
				l = append(l, note{b, offset(l)})
			case 4, 5:
				yes, before := r.Intn(2) == 0, p.End()
				end(t, p, pid, epoch[pid], yes, api.OK)
				if p.End() > before {
					kind := api.Abort
					if yes {
						kind = api.Commit
					}
					l = append(l, note{api.Batch{Kind: kind, PID: pid, Epoch: epoch[pid]}, before})
					epoch[pid]++
					seq[pid] = 0
				}
			case 6:
				d.Crash()
				p = open(t, d)
			}
			most := 1 + r.Intn(32)
			var got []api.Got
			for off := 0; ; {
				some, next, e := p.Fetch(off, most, true)
				if e != api.OK {
					t.Fatal(e)
				}
				got = append(got, some...)
				if next == off {
					break
				}
				off = next
			}
			if s := told(got); s != committed(l) {
				t.Fatalf("%s, not %s", s, committed(l))
			}
		}
	}
}

func offset(l []note) int {
	if len(l) == 0 {
		return 0
	}
	x := l[len(l)-1]
	return x.off + batch.Len(x.b)
}
