package frame_test

import (
	"math"
	"math/rand"
	"slices"
	"strings"
	"testing"

	"headgate/api"
	"headgate/crc"
	"headgate/frame"
	"headgate/varint"
)

func lay(t *testing.T, e api.Entry) string {
	t.Helper()
	s, err := frame.Lay(e)
	if err != api.OK {
		t.Fatalf("Lay(%d, %d, %d bytes) = %d", e.Base, e.N, len(e.Text), err)
	}
	return s
}

func TestCheck(t *testing.T) {
	full := strings.Repeat("x", api.MaxEntry)
	for _, x := range []struct {
		e api.Entry
		w api.Errno
	}{
		{api.Entry{Base: 0, N: 1}, api.OK},
		{api.Entry{Base: api.MaxNum, N: 64, Text: full}, api.OK},
		{api.Entry{Base: 0, N: 65}, api.ErrArg},
		{api.Entry{Base: 0, N: 0}, api.ErrArg},
		{api.Entry{Base: 0, N: -1}, api.ErrArg},
		{api.Entry{Base: -1, N: 1}, api.ErrArg},
		{api.Entry{Base: api.MaxNum + 1, N: 1}, api.ErrArg},
		{api.Entry{Base: math.MaxInt, N: math.MaxInt}, api.ErrArg},
		{api.Entry{Base: 0, N: 1, Text: full + "x"}, api.ErrArg},
	} {
		if w := frame.Check(x.e); w != x.w {
			t.Errorf("Check(%d, %d, %d bytes) = %d", x.e.Base, x.e.N, len(x.e.Text), w)
		}
		s, w := frame.Lay(x.e)
		if w != x.w || (w != api.OK) != (s == "") {
			t.Errorf("Lay(%d, %d, %d bytes) = %.20x %d", x.e.Base, x.e.N, len(x.e.Text), s, w)
		}
		if w != api.OK {
			continue
		}
		if e, rest, w := frame.Take(s + "zz"); e != x.e || rest != "zz" || w != api.OK {
			t.Errorf("Take = %d %d %q %d", e.Base, e.N, rest, w)
		}
	}
}

func TestLay(t *testing.T) {
	if s := lay(t, api.Entry{Base: 0, N: 1, Text: "a"}); s != crc.Seal("\x06\x00\x02a") {
		t.Errorf("%x", s)
	}
	if s := lay(t, api.Entry{Base: 64, N: 3}); s != crc.Seal("\x06\x80\x01\x06") {
		t.Errorf("%x", s)
	}
}

func TestTakeWrong(t *testing.T) {
	a := lay(t, api.Entry{Base: 5, N: 2, Text: "some text"})
	bad := []string{
		"", "\x00", crc.Seal("\x00"), crc.Seal("\x02\x00"), "\x06\x00\x02a\x00\x00\x00\x00",
		crc.Seal("\x86\x00\x00\x02a"),                     // the length has a byte too many
		crc.Seal(varint.PutText(varint.PutAll(0, 0))),     // N 0
		crc.Seal(varint.PutText(varint.PutAll(0, 65))),    // N 65
		crc.Seal(varint.PutText(varint.PutAll(-1, 1))),    // Base -1
		crc.Seal(varint.PutText(varint.PutAll(1<<41, 1))), // Base beyond MaxNum
		crc.Seal(varint.PutText("\x80\x00\x02")),          // Base has a byte too many
		crc.Seal(varint.PutText(varint.PutAll(0, 1) + strings.Repeat("x", api.MaxEntry+1))),
		crc.Seal(varint.Put(-1)), crc.Seal(varint.Put(math.MaxInt)), varint.Put(2) + "\x00\x02",
	}
	for k := range a {
		bad = append(bad, a[:k])
	}
	for _, s := range bad {
		if e, rest, w := frame.Take(s); e != (api.Entry{}) || rest != "" || w != api.ErrForm {
			t.Errorf("Take(%.40x) = %d %d %q %d", s, e.Base, e.N, rest, w)
		}
	}
}

func entries() []api.Entry {
	r := rand.New(rand.NewSource(1))
	l := []api.Entry{{Base: 0, N: 1}, {Base: api.MaxNum, N: 64, Text: "\x00"}}
	for range 10 {
		l = append(l, api.Entry{Base: r.Intn(api.MaxNum), N: 1 + r.Intn(64), Text: strings.Repeat("ab", r.Intn(60))})
	}
	return l
}

// TestCut: of frames that are cut off anywhere, the whole ones are there.
func TestCut(t *testing.T) {
	l := entries()
	all, ends := "", []int{0}
	for _, e := range l {
		all += lay(t, e)
		ends = append(ends, len(all))
	}
	for k := 0; k <= len(all); k++ {
		whole := 0
		for whole < len(l) && ends[whole+1] <= k {
			whole++
		}
		got, n := frame.Row(all[:k])
		if !slices.Equal(got, l[:whole]) || n != ends[whole] {
			t.Fatalf("cut at %d: %d entries, %d bytes", k, len(got), n)
		}
	}
	if got, n := frame.Row(all + "zz"); !slices.Equal(got, l) || n != len(all) {
		t.Errorf("%d entries, %d bytes", len(got), n)
	}
	if got, n := frame.Row("zz"); len(got) != 0 || n != 0 {
		t.Errorf("%d entries, %d bytes", len(got), n)
	}
}

func TestEach(t *testing.T) {
	l := entries()
	all := ""
	for _, e := range l {
		all += lay(t, e)
	}
	each := frame.Each(all + "zz")
	for range 2 {
		k := 0
		for n, e := range each {
			if e != l[k] || n != len(lay(t, l[k])) {
				t.Fatalf("%d: %d %d", k, n, e.Base)
			}
			k++
		}
		if k != len(l) {
			t.Fatalf("%d of %d", k, len(l))
		}
	}
	k := 0
	for range each {
		k++
		if k == 3 {
			break
		}
	}
	if k != 3 {
		t.Error(k)
	}
}

// TestBurst inverts bits behind the length of a frame, within 32 consecutive ones.
func TestBurst(t *testing.T) {
	r := rand.New(rand.NewSource(2))
	for range 20000 {
		b := []byte(lay(t, api.Entry{Base: r.Intn(1000), N: 1 + r.Intn(64), Text: strings.Repeat("x", r.Intn(40))}))
		at := 8 + r.Intn(8*len(b)-8)
		for k := at; k < at+32 && k < 8*len(b); k++ {
			if k == at || r.Intn(2) == 0 {
				b[k/8] ^= 1 << (k % 8)
			}
		}
		if _, _, w := frame.Take(string(b)); w != api.ErrForm {
			t.Fatalf("a burst at %d is not seen: %x", at, b)
		}
	}
}
