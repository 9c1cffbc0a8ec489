package varint_test

import (
	"math"
	"math/rand"
	"slices"
	"strings"
	"testing"

	"headgate/api"
	"headgate/varint"
)

// numbers are the ends of all lengths of an encoding, what lies beside them, and some others.
func numbers() []int {
	l := []int{0, 1, -1, 2, -2, math.MaxInt, math.MinInt, math.MaxInt - 1, math.MinInt + 1}
	for k := 0; k < 63; k++ {
		for d := -2; d <= 2; d++ {
			l = append(l, 1<<k+d, -(1<<k)+d)
		}
	}
	r := rand.New(rand.NewSource(1))
	for range 500 {
		l = append(l, int(r.Uint64())>>r.Intn(64))
	}
	return l
}

func TestPutKnown(t *testing.T) {
	for _, x := range []struct {
		n int
		s string
	}{
		{0, "\x00"}, {-1, "\x01"}, {1, "\x02"}, {-3, "\x05"}, {63, "\x7e"}, {-64, "\x7f"}, {64, "\x80\x01"}, {300, "\xd8\x04"},
		{math.MaxInt, "\xfe\xff\xff\xff\xff\xff\xff\xff\xff\x01"}, {math.MinInt, "\xff\xff\xff\xff\xff\xff\xff\xff\xff\x01"},
	} {
		if s := varint.Put(x.n); s != x.s {
			t.Errorf("Put(%d) = %x, not %x", x.n, s, x.s)
		}
		if n, rest, e := varint.Take(x.s + "\x80"); n != x.n || rest != "\x80" || e != api.OK {
			t.Errorf("Take(%x) = %d %x %d", x.s, n, rest, e)
		}
	}
}

func TestTakeGivesBack(t *testing.T) {
	l := numbers()
	for _, n := range l {
		s := varint.Put(n)
		if len(s) < 1 || len(s) > 10 {
			t.Fatalf("Put(%d) has %d bytes", n, len(s))
		}
		if v, rest, e := varint.Take(s + "rest"); v != n || rest != "rest" || e != api.OK {
			t.Fatalf("Take(Put(%d)) = %d %q %d", n, v, rest, e)
		}
		for k := range s {
			if v, rest, e := varint.Take(s[:k]); v != 0 || rest != "" || e != api.ErrForm {
				t.Fatalf("Take of %d of the bytes of %d = %d %q %d", k, n, v, rest, e)
			}
		}
	}
	slices.Sort(l)
	l = slices.Compact(l)
	var all []string
	for _, n := range l {
		all = append(all, varint.Put(n))
	}
	// Among sorted texts, a prefix stands ahead of what it is a prefix of.
	slices.Sort(all)
	for i := 1; i < len(all); i++ {
		if strings.HasPrefix(all[i], all[i-1]) {
			t.Fatalf("%x begins with %x", all[i], all[i-1])
		}
	}
}

func TestTakeHasOneEncoding(t *testing.T) {
	r := rand.New(rand.NewSource(2))
	for range 200000 {
		b := make([]byte, r.Intn(12))
		for i := range b {
			b[i] = []byte{0, 1, 2, 127, 128, 129, 255, byte(r.Intn(256))}[r.Intn(8)]
		}
		s := string(b)
		n, rest, e := varint.Take(s)
		if e == api.OK && varint.Put(n)+rest != s {
			t.Fatalf("Take(%x) = %d %x", s, n, rest)
		}
		if e != api.OK && (e != api.ErrForm || n != 0 || rest != "") {
			t.Fatalf("Take(%x) = %d %x %d", s, n, rest, e)
		}
	}
}

func TestTakeWrong(t *testing.T) {
	for _, s := range []string{
		"", "\x80", "\x80\x00", "\x81\x00", "\xff\x00", "\x81\x80\x00", "\xff\xff",
		strings.Repeat("\xff", 9), strings.Repeat("\xff", 9) + "\x02", strings.Repeat("\x80", 9) + "\x03",
		strings.Repeat("\x80", 9) + "\x00", strings.Repeat("\x80", 10) + "\x01", strings.Repeat("\xff", 10) + "\x01", strings.Repeat("\xff", 30),
	} {
		if n, rest, e := varint.Take(s); n != 0 || rest != "" || e != api.ErrForm {
			t.Errorf("Take(%x) = %d %x %d", s, n, rest, e)
		}
	}
}

func TestText(t *testing.T) {
	if s := varint.PutText("ab"); s != "\x04ab" {
		t.Errorf("%x", s)
	}
	if s := varint.PutText(""); s != "\x00" {
		t.Errorf("%x", s)
	}
	long := strings.Repeat("x", 1000)
	for _, x := range []struct {
		s          string
		most       int
		text, rest string
		e          api.Errno
	}{
		{"\x04abc", 2, "ab", "c", api.OK},
		{"\x04abc", 3, "ab", "c", api.OK},
		{"\x04ab", 2, "ab", "", api.OK},
		{"\x04abc", 1, "", "", api.ErrForm},
		{"\x00abc", 0, "", "abc", api.OK},
		{"\x00abc", -1, "", "", api.ErrForm},
		{"\x04a", 9, "", "", api.ErrForm},
		{"\x01abc", 9, "", "", api.ErrForm},
		{"\x84\x00abcd", 9, "", "", api.ErrForm},
		{"", 9, "", "", api.ErrForm},
		{varint.Put(math.MaxInt) + "abc", math.MaxInt, "", "", api.ErrForm},
		{varint.Put(math.MinInt) + "abc", math.MaxInt, "", "", api.ErrForm},
		{varint.PutText(long) + "z", 1000, long, "z", api.OK},
		{varint.PutText(long) + "z", 999, "", "", api.ErrForm},
	} {
		text, rest, e := varint.TakeText(x.s, x.most)
		if text != x.text || rest != x.rest || e != x.e {
			t.Errorf("TakeText(%.20q, %d) = %.20q %.20q %d", x.s, x.most, text, rest, e)
		}
	}
}

func TestAll(t *testing.T) {
	if s := varint.PutAll(); s != "" {
		t.Errorf("%x", s)
	}
	if s := varint.PutAll(1, -1, 300); s != "\x02\x01\xd8\x04" {
		t.Errorf("%x", s)
	}
	l := numbers()[:64]
	given := slices.Clone(l)
	s := varint.PutAll(l...)
	if !slices.Equal(l, given) {
		t.Error("PutAll changed its argument")
	}
	for n := 0; n <= 64; n++ {
		got, rest, e := varint.TakeAll(s, n)
		if !slices.Equal(got, l[:n]) || rest != varint.PutAll(l[n:]...) || e != api.OK {
			t.Fatalf("TakeAll of %d = %v %x %d", n, got, rest, e)
		}
	}
	for _, x := range []struct {
		s string
		n int
		e api.Errno
	}{
		{"", 65, api.ErrArg}, {"", -1, api.ErrArg}, {s, 65, api.ErrArg}, {s, math.MaxInt, api.ErrArg}, {s, math.MinInt, api.ErrArg},
		{"", 1, api.ErrForm}, {"\x02\x02", 3, api.ErrForm}, {"\x02\x80\x00\x02", 3, api.ErrForm},
	} {
		if got, rest, e := varint.TakeAll(x.s, x.n); len(got) != 0 || rest != "" || e != x.e {
			t.Errorf("TakeAll(%x, %d) = %v %x %d", x.s, x.n, got, rest, e)
		}
	}
	if got, rest, e := varint.TakeAll("ab", 0); len(got) != 0 || rest != "ab" || e != api.OK {
		t.Errorf("%v %q %d", got, rest, e)
	}
}
