package txn_test

import (
	"math"
	"math/rand"
	"slices"
	"testing"

	"headgate/api"
	"headgate/txn"
	"headgate/varint"
)

func TestNotes(t *testing.T) {
	for _, x := range []struct {
		n api.Note
		e api.Errno
	}{
		{api.Note{Kind: api.NoteInit, PID: 1}, api.OK},
		{api.Note{Kind: api.NoteAdd, PID: 1, Parts: 3}, api.OK},
		{api.Note{Kind: api.NoteAdd, PID: 8, Parts: 1<<13 - 1}, api.OK},
		{api.Note{Kind: api.NoteAdd, PID: 8, Parts: 1}, api.OK},
		{api.Note{Kind: api.NoteCommit, PID: 8}, api.OK},
		{api.Note{Kind: api.NoteAbort, PID: 8}, api.OK},
		{api.Note{Kind: api.NoteComplete, PID: 8}, api.OK},
		{api.Note{}, api.ErrArg},
		{api.Note{Kind: 0, PID: 1}, api.ErrArg},
		{api.Note{Kind: 6, PID: 1}, api.ErrArg},
		{api.Note{Kind: -1, PID: 1}, api.ErrArg},
		{api.Note{Kind: api.NoteInit, PID: 0}, api.ErrArg},
		{api.Note{Kind: api.NoteInit, PID: 9}, api.ErrArg},
		{api.Note{Kind: api.NoteInit, PID: 1, Parts: 1}, api.ErrArg},
		{api.Note{Kind: api.NoteAdd, PID: 1}, api.ErrArg},
		{api.Note{Kind: api.NoteAdd, PID: 1, Parts: 1 << 13}, api.ErrArg},
		{api.Note{Kind: api.NoteAdd, PID: 1, Parts: -1}, api.ErrArg},
		{api.Note{Kind: api.NoteCommit, PID: 1, Parts: 1}, api.ErrArg},
		{api.Note{Kind: api.NoteComplete, PID: 1, Parts: -1}, api.ErrArg},
		{api.Note{Kind: math.MaxInt, PID: math.MinInt, Parts: math.MinInt}, api.ErrArg},
	} {
		raw := varint.PutAll(x.n.Kind, x.n.PID, x.n.Parts)
		if e := txn.Check(x.n); e != x.e {
			t.Errorf("Check(%v) = %d", x.n, e)
		}
		s, e := txn.Encode(x.n)
		if e != x.e || e == api.OK && s != raw || e != api.OK && s != "" {
			t.Errorf("Encode(%v) = %x %d", x.n, s, e)
		}
		n, e := txn.Decode(raw)
		if (e == api.OK) != (x.e == api.OK) || e == api.OK && n != x.n || e != api.OK && (n != api.Note{} || e != api.ErrForm) {
			t.Errorf("Decode(%v) = %v %d", x.n, n, e)
		}
		if l, e := txn.Fold([]api.Trans{{PID: 1, Epoch: 1, State: api.Empty}}, x.n); x.e != api.OK && (l != nil || e != api.ErrArg) {
			t.Errorf("Fold(%v) = %v %d", x.n, l, e)
		}
	}
	if s, _ := txn.Encode(api.Note{Kind: api.NoteAdd, PID: 1, Parts: 3}); s != "\x04\x02\x06" {
		t.Errorf("%x", s)
	}
	for _, s := range []string{"", "\x04", "\x04\x02", "\x04\x02\x06\x00", "\x84\x00\x02\x06"} {
		if n, e := txn.Decode(s); n != (api.Note{}) || e != api.ErrForm {
			t.Errorf("Decode(%x) = %v %d", s, n, e)
		}
	}
}

func TestExample(t *testing.T) {
	var l []api.Trans
	for _, n := range []api.Note{{Kind: api.NoteInit, PID: 1}, {Kind: api.NoteAdd, PID: 1, Parts: 5}, {Kind: api.NoteCommit, PID: 1}, {Kind: api.NoteComplete, PID: 1}} {
		var e api.Errno
		if l, e = txn.Fold(l, n); e != api.OK {
			t.Fatal(e)
		}
	}
	if !slices.Equal(l, []api.Trans{{PID: 1, Epoch: 2, State: api.Empty, Parts: 0, Last: api.Commit}}) {
		t.Error(l)
	}
}

// TestFold tries all kinds of notes with all states.
func TestFold(t *testing.T) {
	const top = api.MaxNum
	row := func(epoch, state, parts, last int) api.Trans {
		return api.Trans{PID: 3, Epoch: epoch, State: state, Parts: parts, Last: last}
	}
	for _, x := range []struct {
		kind    int
		old, w  api.Trans
		e       api.Errno
		noRowOK bool
	}{
		{api.NoteInit, row(4, api.Empty, 6, api.Abort), row(5, api.Empty, 0, 0), api.OK, true},
		{api.NoteInit, row(4, api.Ongoing, 6, 0), row(0, 0, 0, 0), api.ErrState, true},
		{api.NoteInit, row(top, api.Ongoing, 6, 0), row(0, 0, 0, 0), api.ErrState, true},
		{api.NoteInit, row(4, api.Commits, 6, 0), row(0, 0, 0, 0), api.ErrState, true},
		{api.NoteInit, row(4, api.Aborts, 6, 0), row(0, 0, 0, 0), api.ErrState, true},
		{api.NoteInit, row(4, 0, 6, 0), row(0, 0, 0, 0), api.ErrState, true},
		{api.NoteInit, row(top, api.Empty, 0, 0), row(0, 0, 0, 0), api.ErrRange, true},
		{api.NoteAdd, row(4, api.Empty, 0, api.Commit), row(4, api.Ongoing, 9, api.Commit), api.OK, false},
		{api.NoteAdd, row(top, api.Ongoing, 5, 0), row(top, api.Ongoing, 13, 0), api.OK, false},
		{api.NoteAdd, row(4, api.Commits, 6, 0), row(0, 0, 0, 0), api.ErrState, false},
		{api.NoteAdd, row(4, api.Aborts, 6, 0), row(0, 0, 0, 0), api.ErrState, false},
		{api.NoteCommit, row(4, api.Ongoing, 6, 3), row(4, api.Commits, 6, 3), api.OK, false},
		{api.NoteCommit, row(4, api.Empty, 6, 0), row(0, 0, 0, 0), api.ErrState, false},
		{api.NoteCommit, row(4, api.Commits, 6, 0), row(0, 0, 0, 0), api.ErrState, false},
		{api.NoteAbort, row(4, api.Ongoing, 6, 0), row(4, api.Aborts, 6, 0), api.OK, false},
		{api.NoteAbort, row(4, api.Commits, 6, 0), row(0, 0, 0, 0), api.ErrState, false},
		{api.NoteAbort, row(4, api.Aborts, 6, 0), row(0, 0, 0, 0), api.ErrState, false},
		{api.NoteComplete, row(4, api.Commits, 6, api.Abort), row(5, api.Empty, 0, api.Commit), api.OK, false},
		{api.NoteComplete, row(4, api.Aborts, 6, 0), row(5, api.Empty, 0, api.Abort), api.OK, false},
		{api.NoteComplete, row(4, api.Ongoing, 6, 0), row(0, 0, 0, 0), api.ErrState, false},
		{api.NoteComplete, row(4, api.Empty, 6, 0), row(0, 0, 0, 0), api.ErrState, false},
		{api.NoteComplete, row(top, api.Commits, 6, 0), row(0, 0, 0, 0), api.ErrRange, false},
		{api.NoteComplete, row(top, 7, 6, 0), row(0, 0, 0, 0), api.ErrState, false},
	} {
		n := api.Note{Kind: x.kind, PID: 3}
		if x.kind == api.NoteAdd {
			n.Parts = 9
		}
		one, five := api.Trans{PID: 1, Epoch: 7, State: 9}, api.Trans{PID: 5, Epoch: 1}
		l := []api.Trans{one, x.old, five}
		given := slices.Clone(l)
		got, e := txn.Fold(l, n)
		want := []api.Trans{one, x.w, five}
		if e != x.e || e == api.OK && !slices.Equal(got, want) || e != api.OK && got != nil {
			t.Errorf("%d of %v: %v %d", x.kind, x.old, got, e)
		}
		if len(got) > 0 {
			got[0].PID = 7
		}
		if !slices.Equal(l, given) {
			t.Error("the argument is changed")
		}
		got, e = txn.Fold([]api.Trans{one, five}, n)
		if x.noRowOK && (e != api.OK || !slices.Equal(got, []api.Trans{one, {PID: 3, Epoch: 1, State: api.Empty}, five})) || !x.noRowOK && (e != api.ErrNone || got != nil) {
			t.Errorf("%d without a row: %v %d", x.kind, got, e)
		}
	}
}

func TestRowsWrong(t *testing.T) {
	n := api.Note{Kind: api.NoteInit, PID: 2}
	for _, l := range [][]api.Trans{
		{{PID: 2, Epoch: 1, State: 1}, {PID: 1, Epoch: 1, State: 1}}, {{PID: 2, Epoch: 1, State: 1}, {PID: 2, Epoch: 1, State: 1}},
		{{PID: 0, Epoch: 1, State: 1}}, {{PID: 9, Epoch: 1, State: 1}}, {{PID: 1, Epoch: 0, State: 1}}, {{PID: 1, Epoch: api.MaxNum + 1, State: 1}},
	} {
		if got, e := txn.Fold(l, n); got != nil || e != api.ErrArg {
			t.Errorf("%v: %v %d", l, got, e)
		}
	}
}

func TestRow(t *testing.T) {
	l := []api.Trans{{PID: 5, Epoch: 1}, {PID: 2, Epoch: 2}, {PID: 5, Epoch: 3}}
	if r, e := txn.Row(l, 5); r != l[0] || e != api.OK {
		t.Error(r, e)
	}
	if r, e := txn.Row(l, 2); r != l[1] || e != api.OK {
		t.Error(r, e)
	}
	if r, e := txn.Row(l, 1); r != (api.Trans{}) || e != api.ErrNone {
		t.Error(r, e)
	}
	if r, e := txn.Row(nil, 0); r != (api.Trans{}) || e != api.ErrNone {
		t.Error(r, e)
	}
}

func TestEach(t *testing.T) {
	for _, x := range []struct {
		parts int
		w     []int
	}{
		{0, nil}, {4101, []int{0, 2, 12}}, {1 << 13, nil}, {1<<13 + 2, []int{1}}, {math.MinInt, nil},
		{-1, []int{0, 1, 2, 3, 4, 5, 6, 7, 8, 9, 10, 11, 12}}, {math.MinInt + 8, []int{3}},
	} {
		if l := txn.Each(x.parts); !slices.Equal(l, x.w) {
			t.Errorf("Each(%d) = %v", x.parts, l)
		}
	}
}

// TestAlways: epochs never decrease, and what is decided stays so till its end.
func TestAlways(t *testing.T) {
	r := rand.New(rand.NewSource(1))
	for range 300 {
		var l []api.Trans
		for range 100 {
			n := api.Note{Kind: 1 + r.Intn(5), PID: 1 + r.Intn(3)}
			if n.Kind == api.NoteAdd {
				n.Parts = 1 + r.Intn(1<<13-1)
			}
			old, oldErr := txn.Row(l, n.PID)
			got, e := txn.Fold(l, n)
			if e != api.OK {
				continue
			}
			l = got
			now, _ := txn.Row(l, n.PID)
			decided := old.State == api.Commits || old.State == api.Aborts
			ended := now.State == api.Empty && (now.Last == api.Commit) == (old.State == api.Commits)
			if now.Epoch < old.Epoch || oldErr == api.OK && decided && !(ended && now.Epoch == old.Epoch+1) {
				t.Fatal(old, n, now)
			}
			if old.State != api.Ongoing && now.State == api.Ongoing && now.Parts != n.Parts {
				t.Fatal(old, n, now)
			}
		}
	}
}
