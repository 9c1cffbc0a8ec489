package crc_test

import (
	"hash/crc32"
	"math/rand"
	"strings"
	"testing"

	"headgate/api"
	"headgate/crc"
)

func text(r *rand.Rand, n int) string {
	b := make([]byte, n)
	r.Read(b)
	return string(b)
}

func TestSum(t *testing.T) {
	for _, x := range []struct {
		s string
		c uint32
	}{
		{"", 0}, {"123456789", 0xe3069283}, {strings.Repeat("\x00", 32), 0x8a9136aa}, {strings.Repeat("\xff", 32), 0x62a8ab43},
	} {
		if c := crc.Sum(x.s); c != x.c {
			t.Errorf("Sum(%x) = %08x", x.s, c)
		}
	}
	r := rand.New(rand.NewSource(1))
	table := crc32.MakeTable(crc32.Castagnoli)
	for n := range 300 {
		s := text(r, n)
		if c := crc.Sum(s); c != crc32.Checksum([]byte(s), table) {
			t.Fatalf("Sum(%x) = %08x", s, c)
		}
	}
}

func TestMore(t *testing.T) {
	if c := crc.More(crc.Sum("1234"), "56789"); c != 0xe3069283 {
		t.Errorf("%08x", c)
	}
	r := rand.New(rand.NewSource(2))
	for n := range 100 {
		s := text(r, n)
		for k := 0; k <= n; k++ {
			if crc.More(crc.Sum(s[:k]), s[k:]) != crc.Sum(s) {
				t.Fatalf("%x is cut at %d", s, k)
			}
		}
	}
	if crc.More(77, "") != 77 || crc.More(0, "x") != crc.Sum("x") {
		t.Error("More of nothing, or behind nothing")
	}
}

func TestSeal(t *testing.T) {
	if s := crc.Seal("123456789"); s != "123456789\x83\x92\x06\xe3" {
		t.Errorf("%x", s)
	}
	if s := crc.Seal(""); s != "\x00\x00\x00\x00" {
		t.Errorf("%x", s)
	}
	r := rand.New(rand.NewSource(3))
	for n := range 100 {
		s := text(r, n)
		if got, e := crc.Unseal(crc.Seal(s)); got != s || e != api.OK {
			t.Fatalf("%x %d", got, e)
		}
	}
	for _, s := range []string{"", "a", "abc", "\x00\x00\x00", "\x00\x00\x00\x01", "123456789\x83\x92\x06\xe2", "123456789\xe3\x06\x92\x83", "\x00\x00\x00\x00\x00"} {
		if got, e := crc.Unseal(s); got != "" || e != api.ErrForm {
			t.Errorf("Unseal(%x) = %x %d", s, got, e)
		}
	}
}

// TestBurst inverts bits within 32 consecutive ones, the least of a byte first.
func TestBurst(t *testing.T) {
	r := rand.New(rand.NewSource(4))
	for range 20000 {
		b := []byte(crc.Seal(text(r, r.Intn(20))))
		at := r.Intn(8 * len(b))
		changed := false
		for k := at; k < at+32 && k < 8*len(b); k++ {
			if k == at || r.Intn(2) == 0 {
				b[k/8] ^= 1 << (k % 8)
				changed = true
			}
		}
		if _, e := crc.Unseal(string(b)); changed && e != api.ErrForm {
			t.Fatalf("a burst at %d is not seen: %x", at, b)
		}
	}
}

// TestGroups: behind the same text, four bytes and four other ones have different sums.
func TestGroups(t *testing.T) {
	r := rand.New(rand.NewSource(5))
	start := crc.Sum("a beginning")
	seen := map[uint32]string{}
	for range 100000 {
		g := text(r, 4)
		c := crc.More(start, g)
		if o, ok := seen[c]; ok && o != g {
			t.Fatalf("%x and %x", o, g)
		}
		seen[c] = g
	}
}
