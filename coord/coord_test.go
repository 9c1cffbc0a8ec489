package coord_test

import (
	"math"
	"math/rand"
	"slices"
	"testing"

	"headgate/api"
	"headgate/coord"
	"headgate/disk"
	"headgate/seglog"
	"headgate/txn"
	"headgate/varint"
)

func fresh(t *testing.T, n int) *disk.Disk {
	t.Helper()
	d, e := disk.New(n)
	if e != api.OK {
		t.Fatal(e)
	}
	return d
}

func open(t *testing.T, d *disk.Disk) *coord.Coord {
	t.Helper()
	c, e := coord.Open(d)
	if e != api.OK || c == nil {
		t.Fatal(e)
	}
	return c
}

func want(t *testing.T, what string, e, w api.Errno) {
	t.Helper()
	if e != w {
		t.Errorf("%s: %d, not %d", what, e, w)
	}
}

func start(t *testing.T, c *coord.Coord, pid, epoch int, w api.Errno) {
	t.Helper()
	if n, e := c.Init(pid); n != epoch || e != w {
		t.Errorf("Init(%d) = %d %d, not %d %d", pid, n, e, epoch, w)
	}
}

func end(t *testing.T, c *coord.Coord, pid, epoch int, yes, done bool, w api.Errno) {
	t.Helper()
	if b, e := c.End(pid, epoch, yes); b != done || e != w {
		t.Errorf("End(%d, %d, %v) = %v %d, not %v %d", pid, epoch, yes, b, e, done, w)
	}
}

func complete(t *testing.T, c *coord.Coord, pid, epoch int, w api.Errno) {
	t.Helper()
	if n, e := c.Complete(pid); n != epoch || e != w {
		t.Errorf("Complete(%d) = %d %d, not %d %d", pid, n, e, epoch, w)
	}
}

// notes tells how many notes stand in the log.
func notes(t *testing.T, d *disk.Disk) int {
	t.Helper()
	l, e := seglog.Open(d.Copy(), coord.Name)
	if e != api.OK {
		t.Fatal(e)
	}
	return l.Next()
}

func TestExample(t *testing.T) {
	c := open(t, fresh(t, 100))
	start(t, c, 1, 1, api.OK)
	want(t, "Add", c.Add(1, 1, 3), api.OK)
	end(t, c, 1, 1, true, false, api.OK)
	complete(t, c, 1, 2, api.OK)
	end(t, c, 1, 1, true, true, api.OK)
	end(t, c, 1, 1, false, false, api.ErrFenced)
}

func TestInit(t *testing.T) {
	c := open(t, fresh(t, 100))
	for _, pid := range []int{0, 9, -1, math.MaxInt} {
		start(t, c, pid, 0, api.ErrArg)
	}
	for _, pid := range []int{1, 8} {
		start(t, c, pid, 1, api.OK)
		want(t, "Add", c.Add(pid, 1, 1), api.OK)
		end(t, c, pid, 1, true, false, api.OK)
		complete(t, c, pid, 2, api.OK)
	}
	start(t, c, 3, 1, api.OK)
	start(t, c, 3, 2, api.OK)
	want(t, "Add", c.Add(3, 1, 1), api.ErrFenced)
	want(t, "Add", c.Add(3, 2, 1), api.OK)
	start(t, c, 3, 0, api.ErrWait)
	end(t, c, 3, 2, false, false, api.OK)
	start(t, c, 3, 0, api.ErrWait)
	complete(t, c, 3, 3, api.OK)
	end(t, c, 3, 2, false, true, api.OK)
	end(t, c, 3, 2, true, false, api.ErrFenced)
	start(t, c, 3, 4, api.OK)
	end(t, c, 3, 2, false, false, api.ErrFenced)
	end(t, c, 3, 3, false, false, api.ErrFenced) // what came of the transaction of 2 is not that of 3
	end(t, c, 3, 4, false, false, api.ErrState)
}

func TestAdd(t *testing.T) {
	d := fresh(t, 100)
	c := open(t, d)
	for _, x := range [][3]int{{0, 1, 1}, {9, 1, 1}, {1, 1, 0}, {1, 1, 1 << 13}, {1, 1, -1}} {
		want(t, "Add", c.Add(x[0], x[1], x[2]), api.ErrArg)
	}
	want(t, "Add", c.Add(1, 1, 1), api.ErrNone)
	start(t, c, 1, 1, api.OK)
	want(t, "Add", c.Add(1, 1, 5), api.OK)
	want(t, "Add", c.Add(1, 1, 4), api.OK)
	if notes(t, d) != 2 {
		t.Error("a note of what is there already")
	}
	want(t, "Add", c.Add(1, 1, 6), api.OK)
	if l := c.Rows(); notes(t, d) != 3 || !slices.Equal(l, []api.Trans{{PID: 1, Epoch: 1, State: api.Ongoing, Parts: 7}}) {
		t.Error(l, notes(t, d))
	}
	want(t, "Add", c.Add(1, 0, 1), api.ErrFenced)
	want(t, "Add", c.Add(1, 2, 1), api.ErrFenced)
	for _, yes := range []bool{true, false} {
		pid := 1
		if !yes {
			pid = 2
			start(t, c, 2, 1, api.OK)
			want(t, "Add", c.Add(2, 1, 1), api.OK)
		}
		end(t, c, pid, 1, yes, false, api.OK)
		want(t, "Add", c.Add(pid, 1, 1), api.ErrWait)
		want(t, "Add", c.Add(pid, 2, 1), api.ErrFenced)
	}
	if l := c.Todo(); len(l) != 2 || l[0].State != api.Commits || l[1].State != api.Aborts || l[0].Parts != 7 {
		t.Error(l)
	}
}

func TestEnd(t *testing.T) {
	d := fresh(t, 100)
	c := open(t, d)
	end(t, c, 0, 1, true, false, api.ErrArg)
	end(t, c, 9, 1, true, false, api.ErrArg)
	end(t, c, 4, 1, true, false, api.ErrNone)
	complete(t, c, 0, 0, api.ErrArg)
	complete(t, c, 4, 0, api.ErrNone)
	start(t, c, 4, 1, api.OK)
	end(t, c, 4, 1, true, false, api.ErrState)
	end(t, c, 4, 0, true, false, api.ErrFenced) // the epoch ahead of it did not end by a mark
	end(t, c, 4, 2, true, false, api.ErrFenced)
	end(t, c, 4, math.MinInt, true, false, api.ErrFenced)
	end(t, c, 4, math.MaxInt, true, false, api.ErrFenced)
	complete(t, c, 4, 0, api.ErrState)
	want(t, "Add", c.Add(4, 1, 1), api.OK)
	complete(t, c, 4, 0, api.ErrState)
	end(t, c, 4, 1, false, false, api.OK)
	n := notes(t, d)
	end(t, c, 4, 1, false, false, api.OK)
	end(t, c, 4, 1, true, false, api.ErrState)
	if notes(t, d) != n {
		t.Error("a note of what is decided already")
	}
	complete(t, c, 4, 2, api.OK)
	complete(t, c, 4, 0, api.ErrState)
	want(t, "Add", c.Add(4, 2, 1), api.OK)
	end(t, c, 4, 1, false, false, api.ErrFenced) // it is not Empty any more
	if len(c.Todo()) != 0 {
		t.Error(c.Todo())
	}
}

func TestMay(t *testing.T) {
	c := open(t, fresh(t, 100))
	start(t, c, 1, 1, api.OK)
	want(t, "May", c.May(1, 1, 0), api.ErrState)
	want(t, "Add", c.Add(1, 1, 1+1<<12), api.OK)
	want(t, "May", c.May(1, 1, 0), api.OK)
	want(t, "May", c.May(1, 1, 12), api.OK)
	want(t, "May", c.May(1, 1, 1), api.ErrState)
	want(t, "May", c.May(1, 2, 0), api.ErrFenced)
	want(t, "May", c.May(1, 0, 1), api.ErrFenced)
	want(t, "May", c.May(2, 1, 0), api.ErrNone)
	want(t, "May", c.May(-5, 1, 0), api.ErrNone)
	want(t, "May", c.May(2, 1, 13), api.ErrArg)
	want(t, "May", c.May(1, 1, -1), api.ErrArg)
	end(t, c, 1, 1, true, false, api.OK)
	want(t, "May", c.May(1, 1, 0), api.ErrState)
}

func TestTick(t *testing.T) {
	d := fresh(t, 100)
	c := open(t, d)
	for _, pid := range []int{5, 2} {
		start(t, c, pid, 1, api.OK)
		want(t, "Add", c.Add(pid, 1, 1), api.OK)
	}
	start(t, c, 7, 1, api.OK)
	for i := 1; i <= 9; i++ {
		if l := c.Tick(); len(l) != 0 {
			t.Error(i, l)
		}
		if i == 4 {
			want(t, "Add", c.Add(2, 1, 1), api.OK) // it is due at 14, though nothing is new
			want(t, "Add", c.Add(5, 2, 1), api.ErrFenced)
		}
	}
	for i := 10; i <= 15; i++ {
		w := []int{5}
		if i >= 14 {
			w = []int{2, 5}
		}
		if l := c.Tick(); !slices.Equal(l, w) {
			t.Error(i, l)
		}
	}
	end(t, c, 5, 1, false, false, api.OK)
	if l := c.Tick(); !slices.Equal(l, []int{2}) {
		t.Error(l)
	}
	c = open(t, d) // its time begins anew
	for i := 1; i <= 10; i++ {
		if l := c.Tick(); (len(l) > 0) != (i == 10) {
			t.Error(i, l)
		}
	}
}

func TestOpenWrong(t *testing.T) {
	if c, e := coord.Open(nil); c != nil || e != api.ErrArg {
		t.Error(e)
	}
	for i, x := range []struct {
		n     int
		notes []string
		e     api.Errno
	}{
		{1, []string{varint.PutAll(1, 1, 0), varint.PutAll(2, 1, 3), varint.PutAll(3, 1, 0)}, api.OK},
		{2, []string{varint.PutAll(1, 1, 0)}, api.ErrForm},
		{1, []string{varint.PutAll(1, 1, 1)}, api.ErrForm},
		{1, []string{""}, api.ErrForm},
		{1, []string{varint.PutAll(1, 1, 0), varint.PutAll(3, 1, 0)}, api.ErrForm},
		{1, []string{varint.PutAll(1, 1, 0), varint.PutAll(2, 2, 1)}, api.ErrForm},
	} {
		d := fresh(t, 99)
		l, _ := seglog.Open(d, coord.Name)
		for _, s := range x.notes {
			l.Append(api.Item{N: x.n, Text: s})
		}
		c, e := coord.Open(d)
		if e != x.e || (c == nil) != (e != api.OK) {
			t.Errorf("%d: %d", i, e)
		}
		d.Fuse(0)
		if c, e := coord.Open(d); c != nil || e != api.ErrPower {
			t.Error(i, e)
		}
	}
}

func TestBroken(t *testing.T) {
	for fuse := range 2 {
		d := fresh(t, 99)
		c := open(t, d)
		start(t, c, 1, 1, api.OK)
		d.Fuse(fuse)
		want(t, "Add", c.Add(1, 1, 1), api.ErrPower)
		if l := c.Rows(); len(l) != 1 || l[0].State != api.Empty {
			t.Error(l)
		}
		start(t, c, 1, 0, api.ErrPower)
		start(t, c, 0, 0, api.ErrArg)
		want(t, "Add", c.Add(2, 1, 1), api.ErrPower)
		want(t, "Add", c.Add(2, 1, 0), api.ErrArg)
		end(t, c, 2, 1, true, false, api.ErrPower)
		complete(t, c, 2, 0, api.ErrPower)
		complete(t, c, 0, 0, api.ErrArg)
		want(t, "May", c.May(1, 1, 0), api.ErrState)
		want(t, "May", c.May(2, 1, 0), api.ErrNone)
	}
	d := fresh(t, 1)
	c := open(t, d)
	n := 0
	for {
		if _, e := c.Init(1); e != api.OK {
			want(t, "Init", e, api.ErrFull)
			break
		}
		n++
	}
	want(t, "Add", c.Add(1, n, 1), api.ErrFull)
	if r, _ := txn.Row(c.Rows(), 1); r.Epoch != n || r.State != api.Empty {
		t.Error(r)
	}
}

func TestNil(t *testing.T) {
	var c *coord.Coord
	start(t, c, 1, 0, api.ErrArg)
	want(t, "Add", c.Add(1, 1, 1), api.ErrArg)
	end(t, c, 1, 1, true, false, api.ErrArg)
	complete(t, c, 1, 0, api.ErrArg)
	want(t, "May", c.May(1, 1, 1), api.ErrArg)
	if c.Todo() != nil || c.Tick() != nil || c.Rows() != nil {
		t.Error("nil")
	}
	z := &coord.Coord{}
	start(t, z, 1, 0, api.ErrArg)
	z.Tick()
}

func TestOwnMemory(t *testing.T) {
	c := open(t, fresh(t, 9))
	start(t, c, 1, 1, api.OK)
	c.Add(1, 1, 1)
	c.End(1, 1, true)
	c.Rows()[0].PID, c.Todo()[0].PID = 7, 7
	if c.Rows()[0].PID != 1 || c.Todo()[0].PID != 1 {
		t.Error("results share memory with the coordinator")
	}
}

// TestLasts: what was answered with OK is there behind a crash; an epoch that is not the producer's changes nothing.
func TestLasts(t *testing.T) {
	r := rand.New(rand.NewSource(1))
	for range 200 {
		d := fresh(t, 200)
		c := open(t, d)
		for range 80 {
			if r.Intn(10) == 0 {
				d.Fuse(r.Intn(3))
			}
			pid, epoch, yes := 1+r.Intn(3), 1+r.Intn(4), r.Intn(2) == 0
			before := c.Rows()
			row, _ := txn.Row(before, pid)
			if r.Intn(2) == 0 {
				epoch = row.Epoch
			}
			kind := r.Intn(5)
			var e api.Errno
			switch kind {
			case 0:
				_, e = c.Init(pid)
			case 1:
				e = c.Add(pid, epoch, 1+r.Intn(99))
			case 2, 3:
				_, e = c.End(pid, epoch, yes)
			case 4:
				_, e = c.Complete(pid)
			}
			if (e != api.OK || kind >= 1 && kind <= 3 && epoch != row.Epoch) && !slices.Equal(c.Rows(), before) {
				t.Fatal(kind, pid, epoch, before, c.Rows())
			}
			now, _ := txn.Row(c.Rows(), pid)
			if (row.State == api.Commits || row.State == api.Aborts) && now != row && (kind != 4 || now.State != api.Empty) {
				t.Fatal("a decision is changed")
			}
			before = c.Rows()
			if e == api.ErrPower {
				d.Crash(r.Intn(30))
				c = open(t, d)
			} else if r.Intn(10) == 0 {
				d.Crash()
				c = open(t, d)
				if !slices.Equal(c.Rows(), before) {
					t.Fatal(c.Rows(), before)
				}
			}
		}
	}
}
