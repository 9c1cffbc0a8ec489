package offsets_test

import (
	"math"
	"math/rand"
	"slices"
	"testing"

	"headgate/api"
	"headgate/disk"
	"headgate/offsets"
	"headgate/seglog"
	"headgate/varint"
)

func fresh(t *testing.T, n int) *disk.Disk {
	t.Helper()
	d, e := disk.New(n)
	if e != api.OK {
		t.Fatal(e)
	}
	return d
}

func open(t *testing.T, d *disk.Disk, parts int) *offsets.Offsets {
	t.Helper()
	o, e := offsets.Open(d, parts)
	if e != api.OK || o == nil {
		t.Fatal(e)
	}
	return o
}

func want(t *testing.T, what string, e, w api.Errno) {
	t.Helper()
	if e != w {
		t.Errorf("%s: %d, not %d", what, e, w)
	}
}

func fetch(t *testing.T, o *offsets.Offsets, part, off int, w api.Errno) {
	t.Helper()
	if n, e := o.Fetch(part); n != off || e != w {
		t.Errorf("Fetch(%d): %d %d, not %d %d", part, n, e, off, w)
	}
}

// entries tells how many notes stand in the log.
func entries(t *testing.T, d *disk.Disk) int {
	t.Helper()
	l, e := seglog.Open(d.Copy(), offsets.Name)
	if e != api.OK {
		t.Fatal(e)
	}
	return l.Next()
}

func TestExample(t *testing.T) {
	o := open(t, fresh(t, 100), 2)
	want(t, "Pend", o.Pend(1, 1, 0, 0, 5), api.OK)
	fetch(t, o, 0, 0, api.ErrWait)
	fetch(t, o, 1, 0, api.OK)
	want(t, "Pend", o.Pend(2, 1, 0, 0, 7), api.ErrWait)
	want(t, "Done", o.Done(1, 1, true), api.OK)
	fetch(t, o, 0, 5, api.OK)
	want(t, "Pend", o.Pend(2, 1, 0, 0, 7), api.ErrStale)
	if !slices.Equal(o.Committed(), []int{5, 0}) || len(o.Pends()) != 0 {
		t.Error(o.Committed(), o.Pends())
	}
}

func TestBegin(t *testing.T) {
	d := fresh(t, 100)
	o := open(t, d, 1)
	if gen, next := o.Gen(); gen != 0 || next != 1 {
		t.Error(gen, next)
	}
	want(t, "Begin", o.Begin(0, 1), api.OK)
	if entries(t, d) != 0 {
		t.Error("a note of nothing new")
	}
	want(t, "Begin", o.Begin(3, 4), api.OK)
	want(t, "Begin", o.Begin(3, 4), api.OK)
	if entries(t, d) != 1 {
		t.Error(entries(t, d))
	}
	want(t, "Begin", o.Begin(2, 9), api.ErrState)
	want(t, "Begin", o.Begin(4, 3), api.ErrState)
	want(t, "Begin", o.Begin(4, 0), api.ErrState)
	for _, n := range []int{-1, api.MaxNum + 1, math.MinInt} {
		want(t, "Begin", o.Begin(n, 5), api.ErrArg)
		want(t, "Begin", o.Begin(5, n), api.ErrArg)
	}
	want(t, "Begin", o.Begin(3, 5), api.OK)
	want(t, "Begin", o.Begin(api.MaxNum, api.MaxNum), api.OK)
	for range 2 {
		if gen, next := o.Gen(); gen != api.MaxNum || next != api.MaxNum {
			t.Error(gen, next)
		}
		o = open(t, d, 1)
	}
}

func TestPend(t *testing.T) {
	d := fresh(t, 100)
	o := open(t, d, 2)
	want(t, "Pend", o.Pend(1, 1, 0, 0, 5), api.OK)
	for _, x := range []struct {
		pid, epoch, part, from, off int
		e                           api.Errno
	}{
		{0, 1, 0, 0, 5, api.ErrArg}, {9, 1, 0, 0, 5, api.ErrArg}, {1, 0, 0, 0, 5, api.ErrArg}, {1, api.MaxNum + 1, 0, 0, 5, api.ErrArg},
		{1, 1, -1, 0, 5, api.ErrArg}, {1, 1, 2, 0, 5, api.ErrArg}, {1, 1, math.MaxInt, 0, 5, api.ErrArg},
		{1, 1, 0, -1, 5, api.ErrArg}, {1, 1, 0, api.MaxNum + 1, 5, api.ErrArg}, {1, 1, 0, 0, -1, api.ErrArg}, {1, 1, 0, 0, api.MaxNum + 1, api.ErrArg},
		{1, 1, 0, 0, 6, api.ErrState}, {1, 2, 0, 0, 5, api.ErrState}, {1, 1, 0, 1, 5, api.ErrState}, {1, 1, 0, 0, 5, api.OK},
		{2, 1, 0, 0, 5, api.ErrWait}, {2, 1, 0, 3, 2, api.ErrWait},
		{1, 1, 1, 1, 5, api.ErrStale}, {1, 1, 1, 2, 1, api.ErrStale},
	} {
		want(t, "Pend", o.Pend(x.pid, x.epoch, x.part, x.from, x.off), x.e)
	}
	if entries(t, d) != 1 {
		t.Error(entries(t, d))
	}
	want(t, "Pend", o.Pend(8, api.MaxNum, 1, 0, 0), api.OK)
	l := []api.Pend{{PID: 1, Epoch: 1, Part: 0, Off: 5}, {PID: 8, Epoch: api.MaxNum, Part: 1, Off: 0}}
	for range 2 {
		if !slices.Equal(o.Pends(), l) || !slices.Equal(o.Committed(), []int{0, 0}) {
			t.Error(o.Pends(), o.Committed())
		}
		o = open(t, d, 2)
	}
	want(t, "Done", o.Done(1, 1, true), api.OK)
	want(t, "Pend", o.Pend(2, 1, 0, 5, 4), api.ErrRange)
	want(t, "Pend", o.Pend(2, 1, 0, 5, 5), api.OK)
}

func TestDone(t *testing.T) {
	d := fresh(t, 100)
	o := open(t, d, 4)
	for _, x := range [][2]int{{0, 1}, {9, 1}, {1, 0}, {1, api.MaxNum + 1}, {-1, -1}} {
		want(t, "Done", o.Done(x[0], x[1], true), api.ErrArg)
	}
	want(t, "Done", o.Done(1, 1, true), api.OK)
	if entries(t, d) != 0 {
		t.Error("a note of nothing")
	}
	want(t, "Pend", o.Pend(2, 6, 0, 0, 5), api.OK)
	want(t, "Pend", o.Pend(1, 1, 1, 0, 6), api.OK)
	want(t, "Pend", o.Pend(2, 7, 2, 0, 7), api.OK)
	want(t, "Done", o.Done(2, 6, true), api.ErrFenced)
	want(t, "Done", o.Done(2, 6, false), api.ErrFenced)
	want(t, "Done", o.Done(3, 6, true), api.OK)
	want(t, "Done", o.Done(2, 7, true), api.OK)
	if !slices.Equal(o.Pends(), []api.Pend{{PID: 1, Epoch: 1, Part: 1, Off: 6}}) || !slices.Equal(o.Committed(), []int{5, 0, 7, 0}) {
		t.Error(o.Pends(), o.Committed())
	}
	want(t, "Done", o.Done(1, 9, false), api.OK) // a later epoch may end it
	for range 2 {
		if len(o.Pends()) != 0 || !slices.Equal(o.Committed(), []int{5, 0, 7, 0}) {
			t.Error(o.Pends(), o.Committed())
		}
		o = open(t, d, 4)
	}
	if entries(t, d) != 5 {
		t.Error(entries(t, d))
	}
	fetch(t, o, -1, 0, api.ErrArg)
	fetch(t, o, 4, 0, api.ErrArg)
	fetch(t, o, 2, 7, api.OK)
}

func TestOpenWrong(t *testing.T) {
	for _, parts := range []int{0, 5, -1, math.MaxInt} {
		for _, d := range []*disk.Disk{nil, fresh(t, 9)} {
			if o, e := offsets.Open(d, parts); o != nil || e != api.ErrArg {
				t.Error(e)
			}
		}
	}
	if o, e := offsets.Open(nil, 1); o != nil || e != api.ErrArg {
		t.Error(e)
	}
	good := []string{varint.PutAll(1, 3, 4, 0, 0), varint.PutAll(2, 1, 1, 0, 5), varint.PutAll(3, 1, 9, 1, 0), varint.PutAll(2, 8, api.MaxNum, 1, api.MaxNum), varint.PutAll(1, 3, 4, 0, 0), varint.PutAll(2, 1, 1, 0, 5)}
	for i, x := range []struct {
		n     int
		notes []string
		e     api.Errno
	}{
		{1, good, api.OK},
		{1, nil, api.OK},
		{2, good[:1], api.ErrForm},
		{1, []string{""}, api.ErrForm},
		{1, []string{varint.PutAll(1, 3, 4, 0)}, api.ErrForm},
		{1, []string{varint.PutAll(1, 3, 4, 0, 0, 0)}, api.ErrForm},
		{1, []string{varint.PutAll(0, 0, 0, 0, 0)}, api.ErrForm},
		{1, []string{varint.PutAll(4, 1, 1, 0, 5)}, api.ErrForm},
		{1, []string{varint.PutAll(1, 3, 0, 0, 0)}, api.ErrForm},
		{1, []string{varint.PutAll(1, -1, 1, 0, 0)}, api.ErrForm},
		{1, []string{varint.PutAll(1, api.MaxNum+1, 1, 0, 0)}, api.ErrForm},
		{1, []string{varint.PutAll(1, 1, api.MaxNum+1, 0, 0)}, api.ErrForm},
		{1, []string{varint.PutAll(1, 1, 1, 1, 0)}, api.ErrForm},
		{1, []string{varint.PutAll(1, 1, 1, 0, 1)}, api.ErrForm},
		{1, append(slices.Clone(good), varint.PutAll(1, 2, 4, 0, 0)), api.ErrForm},
		{1, append(slices.Clone(good), varint.PutAll(1, 3, 3, 0, 0)), api.ErrForm},
		{1, append(slices.Clone(good), varint.PutAll(2, 1, 1, 0, 5)), api.ErrForm},
		{1, append(slices.Clone(good), varint.PutAll(2, 2, 1, 0, 5)), api.ErrForm},
		{1, append(slices.Clone(good), varint.PutAll(3, 2, 1, 1, 0)), api.ErrForm},
		{1, append(slices.Clone(good), varint.PutAll(3, 1, 1, 2, 0)), api.ErrForm},
		{1, append(slices.Clone(good), varint.PutAll(3, 1, 1, -1, 0)), api.ErrForm},
		{1, append(slices.Clone(good), varint.PutAll(3, 1, 1, 1, 1)), api.ErrForm},
		{1, append(slices.Clone(good), varint.PutAll(3, 1, 0, 1, 0)), api.ErrForm},
		{1, append(slices.Clone(good), varint.PutAll(3, 1, 1, 0, 0), varint.PutAll(2, 1, 1, 0, 4)), api.ErrForm},
		{1, []string{varint.PutAll(2, 1, 1, 2, 5)}, api.ErrForm},
		{1, []string{varint.PutAll(2, 1, 1, -1, 5)}, api.ErrForm},
		{1, []string{varint.PutAll(2, 0, 1, 0, 5)}, api.ErrForm},
		{1, []string{varint.PutAll(2, 9, 1, 0, 5)}, api.ErrForm},
		{1, []string{varint.PutAll(2, 1, 0, 0, 5)}, api.ErrForm},
		{1, []string{varint.PutAll(2, 1, api.MaxNum+1, 0, 5)}, api.ErrForm},
		{1, []string{varint.PutAll(2, 1, 1, 0, -1)}, api.ErrForm},
		{1, []string{varint.PutAll(2, 1, 1, 0, api.MaxNum+1)}, api.ErrForm},
	} {
		d := fresh(t, 99)
		l, _ := seglog.Open(d, offsets.Name)
		for _, s := range x.notes {
			l.Append(api.Item{N: x.n, Text: s})
		}
		o, e := offsets.Open(d, 2)
		if e != x.e || (o == nil) != (e != api.OK) {
			t.Errorf("%d: %d", i, e)
		}
		if i == 0 && (!slices.Equal(o.Committed(), []int{5, 0}) || len(o.Pends()) != 2 || o.Pends()[0].PID != 8) {
			t.Error(o.Committed(), o.Pends())
		}
	}
	d := fresh(t, 99)
	open(t, d, 1).Begin(1, 1)
	d.Fuse(0)
	if o, e := offsets.Open(d, 1); o != nil || e != api.ErrPower {
		t.Error(e)
	}
}

func TestBroken(t *testing.T) {
	for fuse := range 2 {
		d := fresh(t, 99)
		o := open(t, d, 1)
		want(t, "Pend", o.Pend(1, 1, 0, 0, 5), api.OK)
		d.Fuse(fuse)
		want(t, "Done", o.Done(1, 1, true), api.ErrPower)
		if len(o.Pends()) != 1 || o.Committed()[0] != 0 {
			t.Error(o.Pends(), o.Committed())
		}
		want(t, "Done", o.Done(2, 1, true), api.ErrPower)
		want(t, "Done", o.Done(0, 1, true), api.ErrArg)
		want(t, "Begin", o.Begin(0, 0), api.ErrPower)
		want(t, "Begin", o.Begin(-1, 0), api.ErrArg)
		want(t, "Pend", o.Pend(1, 1, 0, 0, 5), api.ErrPower)
		want(t, "Pend", o.Pend(1, 1, 1, 0, 5), api.ErrArg)
		fetch(t, o, 0, 0, api.ErrPower)
		fetch(t, o, 1, 0, api.ErrArg)
	}
	d := fresh(t, 1)
	o := open(t, d, 1)
	gen := 0
	for o.Begin(gen+1, 1) == api.OK {
		gen++
	}
	want(t, "Begin", o.Begin(gen+1, 1), api.ErrFull)
	want(t, "Pend", o.Pend(1, 1, 0, 0, 5), api.ErrFull)
	if g, _ := o.Gen(); g != gen || len(o.Pends()) != 0 {
		t.Error(g, gen)
	}
	fetch(t, o, 0, 0, api.OK)
}

func TestNil(t *testing.T) {
	var o *offsets.Offsets
	want(t, "Begin", o.Begin(1, 1), api.ErrArg)
	want(t, "Pend", o.Pend(1, 1, 0, 0, 1), api.ErrArg)
	want(t, "Done", o.Done(1, 1, true), api.ErrArg)
	fetch(t, o, 0, 0, api.ErrArg)
	if gen, next := o.Gen(); gen != 0 || next != 0 || o.Committed() != nil || o.Pends() != nil {
		t.Error("nil")
	}
	z := &offsets.Offsets{}
	want(t, "Begin", z.Begin(1, 1), api.ErrArg)
	want(t, "Done", z.Done(1, 1, true), api.ErrArg)
}

func TestOwnMemory(t *testing.T) {
	o := open(t, fresh(t, 9), 1)
	o.Pend(1, 1, 0, 0, 5)
	o.Pends()[0].PID, o.Committed()[0] = 7, 7
	if o.Pends()[0].PID != 1 || o.Committed()[0] != 0 {
		t.Error("results share memory with the offsets")
	}
}

// TestLasts: what was answered with OK is there behind a crash, and offsets never go back.
func TestLasts(t *testing.T) {
	r := rand.New(rand.NewSource(1))
	for range 200 {
		d := fresh(t, 200)
		o := open(t, d, 2)
		low := []int{0, 0}
		for range 60 {
			if r.Intn(10) == 0 {
				d.Fuse(r.Intn(3))
			}
			pid, part := 1+r.Intn(2), r.Intn(2)
			before, pends := o.Committed(), o.Pends()
			var e api.Errno
			done := r.Intn(2) == 0
			if done {
				e = o.Done(pid, 1+r.Intn(3), r.Intn(2) == 0)
			} else {
				e = o.Pend(pid, 1+r.Intn(3), part, before[part], before[part]+r.Intn(5))
			}
			if e != api.OK && (!slices.Equal(o.Committed(), before) || !slices.Equal(o.Pends(), pends)) {
				t.Fatal("an error changed something")
			}
			now := o.Committed()
			for p, n := range now {
				if n < low[p] || !done && n != low[p] {
					t.Fatal(now, low)
				}
				if n > low[p] && !slices.ContainsFunc(pends, func(x api.Pend) bool { return x.Part == p && x.Off == n && x.PID == pid }) {
					t.Fatal("nobody wanted to commit it")
				}
			}
			low = now
			if e != api.ErrPower && r.Intn(10) > 0 {
				continue
			}
			l := o.Pends()
			d.Crash(r.Intn(40))
			o = open(t, d, 2)
			for p, n := range o.Committed() {
				if n < low[p] || e != api.ErrPower && n != low[p] {
					t.Fatal(o.Committed(), low)
				}
			}
			if e != api.ErrPower && !slices.Equal(o.Pends(), l) {
				t.Fatal(o.Pends(), l)
			}
			low = o.Committed()
		}
	}
}
