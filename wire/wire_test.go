package wire_test

import (
	"math"
	"math/rand"
	"reflect"
	"slices"
	"strings"
	"testing"

	"headgate/api"
	"headgate/batch"
	"headgate/varint"
	"headgate/wire"
)

var data = api.Batch{Kind: api.Data, L: []api.Record{{Key: 1, Time: 2, Text: "a"}}}

// names are the numbers that requests have, but for kind and ID; has tells which a kind has, in order.
func names(a *api.Ask) map[string]*int {
	return map[string]*int{"PID": &a.PID, "Epoch": &a.Epoch, "Parts": &a.Parts, "Part": &a.Part, "Member": &a.Member, "Gen": &a.Gen, "From": &a.From, "Off": &a.Off, "Most": &a.Most, "Worker": &a.Worker}
}

var has = []string{"", "PID", "PID Epoch Parts", "Part", "PID Epoch Member Gen Part From Off", "PID Epoch", "Part Off Most", "Part", "Worker", "Member", "Member Gen", "Member"}

// full tells a request of a kind that has all that it may have, and its bytes.
func full(kind int) (api.Ask, string) {
	a := api.Ask{Kind: kind, ID: 70}
	s := varint.PutAll(kind, 70)
	for i, name := range strings.Fields(has[kind]) {
		*names(&a)[name] = 100 + i
		s += varint.Put(100 + i)
	}
	if kind == api.AskEnd || kind == api.AskFetch {
		a.Yes = true
		s += "\x02"
	}
	if kind == api.AskPut {
		a.B = data
		b, _ := batch.Encode(data)
		s += varint.PutText(b)
	}
	return a, s
}

func refuse(t *testing.T, a api.Ask) {
	t.Helper()
	if s, e := wire.EncodeAsk(a); s != "" || e != api.ErrArg {
		t.Errorf("EncodeAsk(%v) = %x %d", a, s, e)
	}
}

func noAsk(t *testing.T, s string) {
	t.Helper()
	if a, e := wire.DecodeAsk(s); !reflect.DeepEqual(a, api.Ask{}) || e != api.ErrForm {
		t.Errorf("DecodeAsk(%x) = %v %d", s, a, e)
	}
}

func TestExamples(t *testing.T) {
	for _, x := range []struct {
		a api.Ask
		s string
	}{
		{api.Ask{Kind: api.AskJoin, ID: 1, Worker: 2}, "\x10\x02\x04"},
		{api.Ask{Kind: api.AskEnd, ID: 3, PID: 1, Epoch: 2, Yes: true}, "\x0a\x06\x02\x04\x02"},
		{api.Ask{Kind: api.AskEnd, ID: 3, PID: 1, Epoch: 2}, "\x0a\x06\x02\x04\x00"},
	} {
		if s, e := wire.EncodeAsk(x.a); s != x.s || e != api.OK {
			t.Errorf("%x %d", s, e)
		}
		if a, e := wire.DecodeAsk(x.s); !reflect.DeepEqual(a, x.a) || e != api.OK {
			t.Errorf("%v %d", a, e)
		}
	}
	if s, e := wire.EncodeReply(api.Reply{ID: 1, A: 5}); s != "\x02\x00\x0a\x00\x00\x00" || e != api.OK {
		t.Errorf("%x %d", s, e)
	}
	refuse(t, api.Ask{Kind: api.AskInit, Epoch: 1})
}

func TestAsks(t *testing.T) {
	for kind := 1; kind <= 11; kind++ {
		a, s := full(kind)
		if got, e := wire.EncodeAsk(a); got != s || e != api.OK {
			t.Errorf("%d: %x %d, not %x", kind, got, e, s)
		}
		if got, e := wire.DecodeAsk(s); !reflect.DeepEqual(got, a) || e != api.OK {
			t.Errorf("%d: %v %d", kind, got, e)
		}
		for k := range s {
			noAsk(t, s[:k])
		}
		noAsk(t, s+"\x00")
		for name := range names(&a) {
			b := a
			p := names(&b)[name]
			if !slices.Contains(strings.Fields(has[kind]), name) {
				*p = 1
				refuse(t, b)
				*p = -1
				refuse(t, b)
				continue
			}
			*p = api.MaxNum
			s, e := wire.EncodeAsk(b)
			if got, err := wire.DecodeAsk(s); !reflect.DeepEqual(got, b) || e != api.OK || err != api.OK {
				t.Errorf("%d %s: %v %d %d", kind, name, got, e, err)
			}
			for _, n := range []int{-1, api.MaxNum + 1, math.MinInt, math.MaxInt} {
				*p = n
				refuse(t, b)
				noAsk(t, strings.Replace(s, varint.Put(api.MaxNum), varint.Put(n), 1))
			}
		}
		b := a
		for _, n := range []int{-1, api.MaxNum + 1} {
			b.ID = n
			refuse(t, b)
			noAsk(t, varint.PutAll(kind, n)+s[len(varint.PutAll(kind, 70)):])
		}
		if kind != api.AskEnd && kind != api.AskFetch {
			b = a
			b.Yes = true
			refuse(t, b)
		} else {
			noAsk(t, s[:len(s)-1]+"\x04")
			noAsk(t, s[:len(s)-1]+"\x01")
		}
		if kind != api.AskPut {
			for _, x := range []api.Batch{data, {Kind: 1}, {PID: 1}, {Epoch: 1}, {Seq: 1}, {L: data.L}} {
				b = a
				b.B = x
				refuse(t, b)
			}
			b.B = api.Batch{L: []api.Record{}}
			if got, e := wire.EncodeAsk(b); got != s || e != api.OK {
				t.Errorf("%d: %x %d", kind, got, e)
			}
		}
	}
	for _, kind := range []int{0, 12, -1, math.MinInt, math.MaxInt} {
		refuse(t, api.Ask{Kind: kind})
		noAsk(t, varint.PutAll(kind, 0))
	}
	refuse(t, api.Ask{Kind: api.AskPut})
	refuse(t, api.Ask{Kind: api.AskPut, B: api.Batch{Kind: api.Data}})
	noAsk(t, varint.PutAll(api.AskPut, 0, 0)+varint.PutText(""))
	noAsk(t, varint.PutAll(api.AskPut, 0, 0)+varint.PutText("\x02\x00\x00\x00\x02\x02\x04\x02a\x00"))
	noAsk(t, varint.PutAll(api.AskPut, 0, 0)+varint.Put(math.MaxInt))
}

func reply() api.Reply {
	return api.Reply{ID: 1, Err: 3, A: api.MaxNum, B: 7, Nums: []int{0, api.MaxNum, 4}, L: []api.Got{{Off: 5, R: api.Record{Key: 6, Time: 7, Text: "b"}}, {Off: api.MaxNum, R: api.Record{Key: api.MaxKey, Time: api.MaxNum, Text: strings.Repeat("x", 512)}}}}
}

// raw lays a reply, whether it may be or not.
func raw(r api.Reply) string {
	s := varint.PutAll(r.ID, int(r.Err), r.A, r.B, len(r.Nums)) + varint.PutAll(r.Nums...) + varint.Put(len(r.L))
	for _, g := range r.L {
		s += varint.Put(g.Off) + batch.PutRecord(g.R)
	}
	return s
}

func TestReplies(t *testing.T) {
	for i, x := range []struct {
		f func(r *api.Reply)
		e api.Errno
	}{
		{func(r *api.Reply) {}, api.OK},
		{func(r *api.Reply) { r.ID = api.MaxNum; r.Err = 255; r.B = api.MaxNum }, api.OK},
		{func(r *api.Reply) { r.Nums = make([]int, 64); r.L = make([]api.Got, 2048) }, api.OK},
		{func(r *api.Reply) { r.Nums = nil; r.L = nil }, api.OK},
		{func(r *api.Reply) { r.Err = 256 }, api.ErrArg},
		{func(r *api.Reply) { r.Err = -1 }, api.ErrArg},
		{func(r *api.Reply) { r.ID = -1 }, api.ErrArg},
		{func(r *api.Reply) { r.ID = api.MaxNum + 1 }, api.ErrArg},
		{func(r *api.Reply) { r.A = -1 }, api.ErrArg},
		{func(r *api.Reply) { r.A = api.MaxNum + 1 }, api.ErrArg},
		{func(r *api.Reply) { r.B = -1 }, api.ErrArg},
		{func(r *api.Reply) { r.B = api.MaxNum + 1 }, api.ErrArg},
		{func(r *api.Reply) { r.Nums[1] = -1 }, api.ErrArg},
		{func(r *api.Reply) { r.Nums[2] = api.MaxNum + 1 }, api.ErrArg},
		{func(r *api.Reply) { r.Nums = make([]int, 65) }, api.ErrArg},
		{func(r *api.Reply) { r.L = make([]api.Got, 2049) }, api.ErrArg},
		{func(r *api.Reply) { r.L[0].Off = -1 }, api.ErrArg},
		{func(r *api.Reply) { r.L[0].Off = api.MaxNum + 1 }, api.ErrArg},
		{func(r *api.Reply) { r.L[1].R.Key++ }, api.ErrArg},
		{func(r *api.Reply) { r.L[1].R.Time++ }, api.ErrArg},
		{func(r *api.Reply) { r.L[1].R.Text += "x" }, api.ErrArg},
		{func(r *api.Reply) { r.L[1].R.Key = -1 }, api.ErrArg},
	} {
		r := reply()
		x.f(&r)
		s, e := wire.EncodeReply(r)
		got, err := wire.DecodeReply(raw(r))
		if e != x.e {
			t.Errorf("%d: %d", i, e)
		}
		if e != api.OK {
			if s != "" || !reflect.DeepEqual(got, api.Reply{}) || err != api.ErrForm {
				t.Errorf("%d: %x %v %d", i, s, got, err)
			}
			continue
		}
		same := slices.Equal(got.Nums, r.Nums) && slices.Equal(got.L, r.L)
		got.Nums, got.L, r.Nums, r.L = nil, nil, nil, nil
		if !same || !reflect.DeepEqual(got, r) || err != api.OK {
			t.Errorf("%d: %v %d", i, got, err)
		}
		for k := range s {
			if k > 100 {
				break
			}
			if got, e := wire.DecodeReply(s[:k]); !reflect.DeepEqual(got, api.Reply{}) || e != api.ErrForm {
				t.Errorf("%d: %v %d", i, got, e)
			}
		}
		if got, e := wire.DecodeReply(s + "\x00"); !reflect.DeepEqual(got, api.Reply{}) || e != api.ErrForm {
			t.Errorf("%d: %v %d", i, got, e)
		}
	}
	for _, s := range []string{varint.PutAll(0, 0, 0, 0, -1), varint.PutAll(0, 0, 0, 0, 0, -1), varint.PutAll(0, 0, 0, 0, 0, math.MaxInt), varint.PutAll(0, 0, 0, 0, math.MaxInt)} {
		if got, e := wire.DecodeReply(s); !reflect.DeepEqual(got, api.Reply{}) || e != api.ErrForm {
			t.Errorf("%x: %v %d", s, got, e)
		}
	}
}

// TestAny: what is read of any bytes has exactly these bytes.
func TestAny(t *testing.T) {
	r := rand.New(rand.NewSource(1))
	asks, replies := 0, 0
	for range 100000 {
		_, s := full(1 + r.Intn(11))
		if r.Intn(2) == 0 {
			s = raw(reply())[:20]
		}
		b := []byte(s)
		for range r.Intn(4) {
			b[r.Intn(len(b))] = byte(r.Intn(20))
		}
		if a, e := wire.DecodeAsk(string(b)); e == api.OK {
			asks++
			if s, e := wire.EncodeAsk(a); s != string(b) || e != api.OK {
				t.Fatalf("%x: %x %d", b, s, e)
			}
		}
		if a, e := wire.DecodeReply(string(b)); e == api.OK {
			replies++
			if s, e := wire.EncodeReply(a); s != string(b) || e != api.OK {
				t.Fatalf("%x: %x %d", b, s, e)
			}
		}
	}
	if asks < 1000 || replies < 10 {
		t.Error(asks, replies)
	}
}
