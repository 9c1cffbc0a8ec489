package mail_test

import (
	"math"
	"math/rand"
	"slices"
	"strconv"
	"strings"
	"testing"

	"headgate/api"
	"headgate/mail"
)

func send(t *testing.T, m *mail.Mail, w api.Errno, to, from int, texts ...string) {
	t.Helper()
	before := m.Len()
	if e := m.Send(to, from, texts...); e != w {
		t.Errorf("Send(%d, %d) = %d, not %d", to, from, e, w)
	}
	if w != api.OK && m.Len() != before {
		t.Error("something is sent")
	}
}

func take(t *testing.T, m *mail.Mail, place int, w api.Packet, e api.Errno) {
	t.Helper()
	if p, err := m.Take(place); p != w || err != e {
		t.Errorf("Take(%d) = %v %d, not %v %d", place, p, err, w, e)
	}
}

func TestExample(t *testing.T) {
	m := mail.New()
	if m == nil || m.Len() != 0 || len(m.List()) != 0 {
		t.Fatal("a new one")
	}
	send(t, m, api.OK, 0, 1, "a", "b")
	if e := m.Twice(0); e != api.OK {
		t.Error(e)
	}
	if l := m.List(); !slices.Equal(l, []api.Packet{{N: 1, From: 1, S: "a"}, {N: 2, From: 1, S: "b"}, {N: 3, From: 1, S: "a"}}) {
		t.Error(l)
	}
	take(t, m, 1, api.Packet{N: 2, From: 1, S: "b"}, api.OK)
	take(t, m, 1, api.Packet{N: 3, From: 1, S: "a"}, api.OK)
	send(t, m, api.OK, 8, 0, "c")
	take(t, m, 1, api.Packet{N: 4, To: 8, S: "c"}, api.OK)
	take(t, m, 0, api.Packet{N: 1, From: 1, S: "a"}, api.OK)
	for _, place := range []int{0, -1, 1, math.MaxInt, math.MinInt} {
		take(t, m, place, api.Packet{}, api.ErrRange)
		if e := m.Twice(place); e != api.ErrRange {
			t.Error(e)
		}
	}
}

func TestWrong(t *testing.T) {
	m := mail.New()
	long := strings.Repeat("x", 131072)
	send(t, m, api.OK, 0, 8, "", long)
	send(t, m, api.ErrArg, 0, 8, "", long+"x")
	for _, n := range []int{9, -1, math.MaxInt, math.MinInt} {
		send(t, m, api.ErrArg, n, 0, "c")
		send(t, m, api.ErrArg, 0, n, "c")
		send(t, m, api.ErrArg, n, 0)
	}
	send(t, m, api.OK, 0, 0)
	if m.Len() != 2 {
		t.Error(m.Len())
	}
}

func TestFull(t *testing.T) {
	m := mail.New()
	for m.Len() < 255 {
		send(t, m, api.OK, 0, 1, "a")
	}
	send(t, m, api.ErrFull, 0, 1, "a", "b")
	send(t, m, api.ErrArg, 9, 1, "a", "b")
	send(t, m, api.OK, 2, 1, "a")
	send(t, m, api.ErrFull, 0, 1, "a")
	send(t, m, api.OK, 0, 1)
	if e := m.Twice(0); e != api.ErrFull {
		t.Error(e)
	}
	if e := m.Twice(256); e != api.ErrRange {
		t.Error(e)
	}
	take(t, m, 255, api.Packet{N: 256, To: 2, From: 1, S: "a"}, api.OK)
	if e := m.Twice(254); e != api.OK {
		t.Error(e)
	}
	take(t, m, 255, api.Packet{N: 257, From: 1, S: "a"}, api.OK)
	send(t, m, api.ErrFull, 0, 1, make([]string, 300)...)
}

func TestNil(t *testing.T) {
	var m *mail.Mail
	send(t, m, api.ErrArg, 0, 1, "a")
	take(t, m, 0, api.Packet{}, api.ErrRange)
	if m.Twice(0) != api.ErrRange || m.Len() != 0 || m.List() != nil {
		t.Error("nil")
	}
}

func TestOwnMemory(t *testing.T) {
	m := mail.New()
	send(t, m, api.OK, 0, 1, "a", "b")
	l := m.List()
	l[0].S = "x"
	take(t, m, 0, api.Packet{N: 1, From: 1, S: "a"}, api.OK)
	if l[1].S != "b" || m.List()[0].S != "b" {
		t.Error(l, m.List())
	}
}

// TestOnce: each packet that is taken was sent, and comes once; the first ones come in order.
func TestOnce(t *testing.T) {
	r := rand.New(rand.NewSource(1))
	for round := range 50 {
		m := mail.New()
		sent, taken := map[int]api.Packet{}, map[int]bool{}
		last := 0
		for n := range 400 {
			switch r.Intn(3) {
			case 0:
				p := api.Packet{N: len(sent) + 1, To: r.Intn(9), From: r.Intn(9), S: strconv.Itoa(n)}
				if m.Send(p.To, p.From, p.S) == api.OK {
					sent[p.N] = p
				}
			case 1:
				if place := r.Intn(m.Len() + 1); m.Twice(place) == api.OK {
					p := m.List()[place]
					p.N = len(sent) + 1
					sent[p.N] = p
				}
			case 2:
				place := 0
				if round%2 == 0 {
					place = r.Intn(m.Len() + 1)
				}
				p, e := m.Take(place)
				if e != api.OK {
					continue
				}
				if sent[p.N] != p || taken[p.N] || round%2 == 1 && p.N != last+1 {
					t.Fatal(p)
				}
				taken[p.N] = true
				last = p.N
			}
			if m.Len() != len(sent)-len(taken) || len(m.List()) != m.Len() {
				t.Fatal(m.Len())
			}
		}
	}
}
