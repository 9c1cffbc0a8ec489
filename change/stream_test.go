package change_test

import (
	"math/rand"
	"slices"
	"testing"

	"headgate/api"
	"headgate/change"
	"headgate/disk"
	"headgate/part"
)

func open(t *testing.T, d *disk.Disk) *part.Part {
	t.Helper()
	p, e := part.Open(d, "chg0")
	if e != api.OK {
		t.Fatal(e)
	}
	return p
}

// read tells all records of a partition.
func read(t *testing.T, p *part.Part) []api.Record {
	t.Helper()
	var l []api.Record
	for off := 0; off < p.End(); {
		some, next, e := p.Fetch(off, 7, true)
		if e != api.OK || next == off {
			t.Fatal(e, off)
		}
		for _, x := range some {
			l = append(l, x.R)
		}
		off = next
	}
	return l
}

// TestStream is promise T1: wherever the power fails, the changes that are there restore the state behind some of the
// steps, at least behind all whose changes were acknowledged.
func TestStream(t *testing.T) {
	r := rand.New(rand.NewSource(1))
	for fuse := range 120 {
		for range 4 {
			g, l, _ := states(r, 60)
			d, _ := disk.New(400 + r.Intn(400))
			p := open(t, d)
			d.Fuse(fuse)
			sure := 0
			var e api.Errno
			for i := 1; i < len(l) && e == api.OK; i++ {
				if _, _, e = p.Put(api.Batch{Kind: api.Data, L: change.Diff(l[i-1], l[i])}); e == api.OK {
					sure = i
				}
			}
			d.Crash(r.Intn(1200), r.Intn(1200), r.Intn(1200), r.Intn(1200))
			s, e := change.Restore(g, read(t, open(t, d))...)
			if e != api.OK {
				t.Fatal(e)
			}
			behind := slices.IndexFunc(l, func(x api.State) bool { return same(x, s) })
			if behind < sure || behind > sure+1 {
				t.Fatalf("the state behind step %d, of which %d are sure", behind, sure)
			}
		}
	}
}

// TestOuts is promise T2: windows that are over, put as records and read again, are what the engine told, in order.
func TestOuts(t *testing.T) {
	r := rand.New(rand.NewSource(2))
	for range 100 {
		_, _, over := states(r, 150)
		d, _ := disk.New(2000)
		p := open(t, d)
		var l []api.Record
		for _, c := range over {
			x, e := change.Out(c)
			if e != api.OK {
				t.Fatal(e)
			}
			l = append(l, x)
		}
		for batch := range slices.Chunk(l, 1+r.Intn(api.MaxRecords)) {
			if _, _, e := p.Put(api.Batch{Kind: api.Data, L: batch}); e != api.OK {
				t.Fatal(e)
			}
		}
		var got []api.Cell
		for _, x := range read(t, open(t, d)) {
			c, e := change.In(x)
			if e != api.OK {
				t.Fatal(e)
			}
			got = append(got, c)
		}
		if len(over) == 0 || !slices.Equal(got, over) {
			t.Fatal(got, over)
		}
	}
}
