package lz_test

import (
	"math"
	"math/rand"
	"strings"
	"testing"

	"headgate/api"
	"headgate/lz"
	"headgate/varint"
)

// both packs and unpacks, and tells how many bytes there were in between.
func both(t *testing.T, s string) int {
	t.Helper()
	p, e := lz.Pack(s)
	if e != api.OK || len(p) > len(s)+10 {
		t.Fatalf("%d bytes to %d: %d", len(s), len(p), e)
	}
	if u, e := lz.Unpack(p, len(s)); u != s || e != api.OK {
		t.Fatalf("%.50q: %.50q %d", s, u, e)
	}
	if u, e := lz.Unpack(p, len(s)-1); u != "" || e == api.OK {
		t.Fatalf("%.50q: %.50q %d", s, u, e)
	}
	return len(p)
}

func TestUnpack(t *testing.T) {
	piece := func(n, back int) string { return varint.PutAll(n, back) }
	for _, x := range []struct {
		s    string
		most int
		w    string
		e    api.Errno
	}{
		{"\x08ab\x0a\x04", 100, "abababab", api.OK}, {"\x08ab\x0a\x04", 8, "abababab", api.OK}, {"\x08ab\x0a\x04", 7, "", api.ErrForm},
		{"", 0, "", api.OK}, {"", lz.Most, "", api.OK}, {"", -1, "", api.ErrArg}, {"", lz.Most + 1, "", api.ErrArg}, {"?", math.MinInt, "", api.ErrArg}, {"?", math.MaxInt, "", api.ErrArg},
		{"\x04a\x04b", 9, "ab", api.OK}, {"\x04a\x04b", 1, "", api.ErrForm},
		{"\x04a" + piece(1, 1), 9, "aaaaa", api.OK}, {"\x04a" + piece(1, 1), 4, "", api.ErrForm},
		{"\x04a" + piece(1, 2), 9, "", api.ErrForm}, {"\x04a" + piece(1, 0), 9, "", api.ErrForm}, {"\x04a" + piece(1, -1), 9, "", api.ErrForm}, {piece(1, 1), 9, "", api.ErrForm},
		{"\x00", 9, "", api.ErrForm}, {"\x01", 9, "", api.ErrForm}, {"\x05", 9, "", api.ErrForm}, {"\x08a", 9, "", api.ErrForm}, {"\x04", 9, "", api.ErrForm}, {"\x04a\x02", 9, "", api.ErrForm},
		{"\x84\x00a", 9, "", api.ErrForm}, {"\x80", 9, "", api.ErrForm}, {"\x04a\x80", 9, "", api.ErrForm},
		{"\x04a" + piece(math.MaxInt, 1), lz.Most, "", api.ErrForm}, {varint.Put(math.MaxInt-1) + "a", lz.Most, "", api.ErrForm},
		{"\x04a" + piece(2*(lz.Most-5)+1, 1), lz.Most, strings.Repeat("a", lz.Most), api.OK}, {"\x04a" + piece(2*(lz.Most-4)+1, 1), lz.Most, "", api.ErrForm},
	} {
		if u, e := lz.Unpack(x.s, x.most); u != x.w || e != x.e {
			t.Errorf("%.30q, %d: %.30q %d", x.s, x.most, u, e)
		}
	}
	if lz.Least != 4 || lz.Far != 4096 || lz.Most != 1048576 {
		t.Error(lz.Least, lz.Far, lz.Most)
	}
	long := strings.Repeat("x", 5000)
	for _, back := range []int{4096, 4097} {
		u, e := lz.Unpack(varint.Put(10000)+long+piece(1, back), 9000)
		if (e == api.OK) != (back == 4096) || e == api.OK && len(u) != 5004 {
			t.Error(back, e)
		}
	}
}

func TestPackLength(t *testing.T) {
	if p, e := lz.Pack(strings.Repeat("x", lz.Most+1)); p != "" || e != api.ErrArg {
		t.Error(len(p), e)
	}
	if n := both(t, strings.Repeat("x", lz.Most)); n > 21 {
		t.Error(n)
	}
	if n := both(t, strings.Repeat("abcdefg", 700)); n > 27 {
		t.Error(n)
	}
	b := make([]byte, lz.Most)
	rand.New(rand.NewSource(1)).Read(b)
	both(t, string(b))
}

// TestRepetition: a repetition of a text is at most twenty bytes longer than it.
func TestRepetition(t *testing.T) {
	r := rand.New(rand.NewSource(2))
	for range 1500 {
		b := make([]byte, 1+r.Intn(1<<r.Intn(13)))
		letters := 1 + r.Intn(1<<r.Intn(9))
		for i := range b {
			b[i] = byte(r.Intn(letters))
		}
		if n := both(t, strings.Repeat(string(b), 1+r.Intn(9))); n > len(b)+20 {
			t.Fatalf("%d of %d", n, len(b))
		}
	}
	// Blocks in an order, and then in another one: the last place of a block never is the right one.
	for range 200 {
		var blocks []string
		for range 2 + r.Intn(20) {
			x := make([]byte, 5+r.Intn(60))
			r.Read(x)
			blocks = append(blocks, string(x))
		}
		w := strings.Join(blocks, "")
		r.Shuffle(len(blocks), func(i, j int) { blocks[i], blocks[j] = blocks[j], blocks[i] })
		w += strings.Join(blocks, "")
		for k := 1; k < 9; k++ {
			if n := both(t, strings.Repeat(w, k)); n > len(w)+20 {
				t.Fatal(n, len(w))
			}
		}
	}
}

// TestAny packs texts of all sorts, and unpacks bytes of all sorts.
func TestAny(t *testing.T) {
	r := rand.New(rand.NewSource(3))
	saved := 0
	for range 3000 {
		var s string
		for len(s) < 1+r.Intn(400) {
			switch {
			case len(s) > 0 && r.Intn(2) == 0:
				k := r.Intn(len(s))
				s += s[k:min(len(s), k+r.Intn(30))]
			default:
				b := make([]byte, r.Intn(20))
				r.Read(b)
				s += string(b)
			}
		}
		saved += len(s) - both(t, s)
	}
	if saved < 10000 {
		t.Error(saved)
	}
	for i := range 40 {
		both(t, strings.Repeat("z", i))
		both(t, strings.Repeat("yz", i)+"x")
	}
	for range 50000 {
		b := make([]byte, r.Intn(20))
		for i := range b {
			b[i] = byte(r.Intn(24))
		}
		most := r.Intn(60)
		u, e := lz.Unpack(string(b), most)
		if len(u) > most || e != api.OK && (u != "" || e != api.ErrForm) {
			t.Fatal(b, len(u), e)
		}
	}
}
