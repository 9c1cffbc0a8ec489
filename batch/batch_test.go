package batch_test

import (
	"math"
	"math/rand"
	"reflect"
	"slices"
	"strings"
	"testing"

	"headgate/api"
	"headgate/batch"
	"headgate/varint"
)

var one = []api.Record{{Key: 1, Time: 2, Text: "a"}}

func many(n int) []api.Record {
	l := make([]api.Record, n)
	for i := range l {
		l[i] = api.Record{Key: i, Time: 2 * i, Text: strings.Repeat("t", i)}
	}
	return l
}

func TestCheck(t *testing.T) {
	with := func(r api.Record) api.Batch {
		return api.Batch{Kind: api.Data, L: []api.Record{{}, r, {}}}
	}
	for i, x := range []struct {
		b api.Batch
		e api.Errno
	}{
		{api.Batch{Kind: api.Data, L: one}, api.OK},
		{api.Batch{Kind: api.Data, PID: 1, Epoch: 1, L: one}, api.OK},
		{api.Batch{Kind: api.Data, PID: 8, Epoch: api.MaxNum, Seq: api.MaxNum, L: many(64)}, api.OK},
		{api.Batch{Kind: api.Txn, PID: 1, Epoch: 1, Seq: 3, L: one}, api.OK},
		{api.Batch{Kind: api.Commit, PID: 1, Epoch: 1}, api.OK},
		{api.Batch{Kind: api.Abort, PID: 8, Epoch: api.MaxNum, L: []api.Record{}}, api.OK},
		{api.Batch{}, api.ErrArg},
		{api.Batch{Kind: api.Data}, api.ErrArg},
		{api.Batch{Kind: api.Data, L: many(65)}, api.ErrArg},
		{api.Batch{Kind: api.Data, PID: 1, L: one}, api.ErrArg},
		{api.Batch{Kind: api.Data, Epoch: 1, L: one}, api.ErrArg},
		{api.Batch{Kind: api.Data, Seq: 1, L: one}, api.ErrArg},
		{api.Batch{Kind: api.Data, PID: 9, Epoch: 1, L: one}, api.ErrArg},
		{api.Batch{Kind: api.Data, PID: -1, Epoch: 1, L: one}, api.ErrArg},
		{api.Batch{Kind: api.Data, PID: 1, Epoch: -1, L: one}, api.ErrArg},
		{api.Batch{Kind: api.Data, PID: 1, Epoch: api.MaxNum + 1, L: one}, api.ErrArg},
		{api.Batch{Kind: api.Data, PID: 1, Epoch: 1, Seq: -1, L: one}, api.ErrArg},
		{api.Batch{Kind: api.Data, PID: 1, Epoch: 1, Seq: api.MaxNum + 1, L: one}, api.ErrArg},
		{api.Batch{Kind: api.Txn, L: one}, api.ErrArg},
		{api.Batch{Kind: api.Txn, PID: 1, Epoch: 1}, api.ErrArg},
		{api.Batch{Kind: api.Txn, PID: 1, L: one}, api.ErrArg},
		{api.Batch{Kind: api.Commit}, api.ErrArg},
		{api.Batch{Kind: api.Commit, PID: 1}, api.ErrArg},
		{api.Batch{Kind: api.Commit, Epoch: 1}, api.ErrArg},
		{api.Batch{Kind: api.Commit, PID: 1, Epoch: 1, Seq: 1}, api.ErrArg},
		{api.Batch{Kind: api.Abort, PID: 1, Epoch: 1, L: one}, api.ErrArg},
		{api.Batch{Kind: 5, PID: 1, Epoch: 1}, api.ErrArg},
		{api.Batch{Kind: 0, L: one}, api.ErrArg},
		{api.Batch{Kind: -1, PID: 1, Epoch: 1, L: one}, api.ErrArg},
		{api.Batch{Kind: math.MaxInt, PID: math.MaxInt, Epoch: math.MinInt, Seq: math.MinInt}, api.ErrArg},
		{with(api.Record{Key: api.MaxKey, Time: api.MaxNum, Text: strings.Repeat("x", 512)}), api.OK},
		{with(api.Record{Key: -1}), api.ErrArg},
		{with(api.Record{Key: api.MaxKey + 1}), api.ErrArg},
		{with(api.Record{Time: -1}), api.ErrArg},
		{with(api.Record{Time: api.MaxNum + 1}), api.ErrArg},
		{with(api.Record{Text: strings.Repeat("x", 513)}), api.ErrArg},
	} {
		if e := batch.Check(x.b); e != x.e {
			t.Errorf("%d: Check = %d", i, e)
		}
		s, e := batch.Encode(x.b)
		if e != x.e || (e != api.OK) != (s == "") {
			t.Errorf("%d: Encode = %x %d", i, s, e)
		}
		if n := batch.Len(x.b); n != max(1, len(x.b.L)) {
			t.Errorf("%d: Len = %d", i, n)
		}
		if e != api.OK {
			// What may not be is not read, either.
			if got, e := batch.Decode(raw(x.b)); !same(got, api.Batch{}) || e != api.ErrForm {
				t.Errorf("%d: Decode = %v %d", i, got, e)
			}
			continue
		}
		if s != raw(x.b) {
			t.Errorf("%d: Encode = %x", i, s)
		}
		if got, e := batch.Decode(s); !same(got, x.b) || e != api.OK {
			t.Errorf("%d: Decode = %v %d", i, got, e)
		}
	}
}

// raw lays a batch, whether it may be or not.
func raw(b api.Batch) string {
	s := varint.PutAll(b.Kind, b.PID, b.Epoch, b.Seq, len(b.L))
	for _, r := range b.L {
		s += varint.PutAll(r.Key, r.Time) + varint.PutText(r.Text)
	}
	return s
}

func same(a, b api.Batch) bool {
	l := slices.Equal(a.L, b.L)
	a.L, b.L = nil, nil
	return l && reflect.DeepEqual(a, b)
}

func TestExamples(t *testing.T) {
	if s, e := batch.Encode(api.Batch{Kind: api.Commit, PID: 1, Epoch: 2}); s != "\x06\x02\x04\x00\x00" || e != api.OK {
		t.Errorf("%x %d", s, e)
	}
	if s, e := batch.Encode(api.Batch{Kind: api.Data, L: one}); s != "\x02\x00\x00\x00\x02\x02\x04\x02a" || e != api.OK {
		t.Errorf("%x %d", s, e)
	}
}

func TestRecord(t *testing.T) {
	if s := batch.PutRecord(one[0]); s != "\x02\x04\x02a" {
		t.Errorf("%x", s)
	}
	for _, x := range []struct {
		r api.Record
		e api.Errno
	}{
		{one[0], api.OK},
		{api.Record{}, api.OK},
		{api.Record{Key: api.MaxKey, Time: api.MaxNum, Text: strings.Repeat("x", 512)}, api.OK},
		{api.Record{Key: api.MaxKey + 1}, api.ErrForm},
		{api.Record{Key: -1}, api.ErrForm},
		{api.Record{Time: -1}, api.ErrForm},
		{api.Record{Time: api.MaxNum + 1}, api.ErrForm},
		{api.Record{Key: math.MinInt, Time: math.MaxInt}, api.ErrForm},
		{api.Record{Text: strings.Repeat("x", 513)}, api.ErrForm},
	} {
		s := batch.PutRecord(x.r)
		if s != varint.PutAll(x.r.Key, x.r.Time)+varint.PutText(x.r.Text) {
			t.Errorf("%x", s)
		}
		r, rest, e := batch.TakeRecord(s + "z")
		w, left := x.r, "z"
		if x.e != api.OK {
			w, left = api.Record{}, ""
		}
		if r != w || rest != left || e != x.e {
			t.Errorf("TakeRecord(%x) = %v %q %d", s, r, rest, e)
		}
		for k := range s {
			if r, rest, e := batch.TakeRecord(s[:k]); r != (api.Record{}) || rest != "" || e != api.ErrForm {
				t.Errorf("TakeRecord of %d bytes = %v %q %d", k, r, rest, e)
			}
		}
	}
}

func TestDecodeWrong(t *testing.T) {
	for _, b := range []api.Batch{
		{Kind: api.Data, L: many(20)}, {Kind: api.Txn, PID: 3, Epoch: 500, Seq: 70, L: many(3)}, {Kind: api.Abort, PID: 3, Epoch: 500},
	} {
		s, _ := batch.Encode(b)
		for k := range s {
			if got, e := batch.Decode(s[:k]); !same(got, api.Batch{}) || e != api.ErrForm {
				t.Errorf("Decode of %d bytes = %v %d", k, got, e)
			}
		}
		if got, e := batch.Decode(s + "\x00"); !same(got, api.Batch{}) || e != api.ErrForm {
			t.Errorf("Decode = %v %d", got, e)
		}
	}
	for _, s := range []string{
		varint.PutAll(api.Commit, 1, 1, 0, -1), varint.PutAll(api.Data, 0, 0, 0, math.MaxInt), varint.PutAll(api.Data, 0, 0, 0, 65) + strings.Repeat("\x00", 65*3),
		"\x82\x00\x00\x00\x00\x02\x02\x04\x02a",
	} {
		if got, e := batch.Decode(s); !same(got, api.Batch{}) || e != api.ErrForm {
			t.Errorf("Decode(%x) = %v %d", s, got, e)
		}
	}
}

// TestDecodeAny: what is read has exactly the encoding that was read.
func TestDecodeAny(t *testing.T) {
	r := rand.New(rand.NewSource(1))
	read := 0
	for range 200000 {
		b := []byte(raw(api.Batch{Kind: r.Intn(6), PID: r.Intn(3), Epoch: r.Intn(3), Seq: r.Intn(2), L: many(r.Intn(3))}))
		for range r.Intn(3) {
			b[r.Intn(len(b))] = byte(r.Intn(256))
		}
		got, e := batch.Decode(string(b))
		if e == api.OK {
			read++
			if s, e := batch.Encode(got); s != string(b) || e != api.OK {
				t.Fatalf("%x: %x %d", b, s, e)
			}
		} else if e != api.ErrForm || !same(got, api.Batch{}) {
			t.Fatalf("%x: %v %d", b, got, e)
		}
	}
	if read < 1000 {
		t.Error(read)
	}
}

func TestMemory(t *testing.T) {
	l := many(5)
	given := slices.Clone(l)
	batch.Encode(api.Batch{Kind: api.Data, L: l[:3]})
	if !slices.Equal(l, given) {
		t.Error(l)
	}
}
