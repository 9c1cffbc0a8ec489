package pipe_test

import (
	"math"
	"math/rand"
	"reflect"
	"slices"
	"strings"
	"testing"

	"headgate/api"
	"headgate/engine"
	"headgate/lex"
	"headgate/pipe"
	"headgate/tree"
	"headgate/varint"
)

func rec(key, time, v int) api.Record {
	return api.Record{Key: key, Time: time, Text: varint.Put(v)}
}

func parse(t *testing.T, s string) api.Query {
	t.Helper()
	q, line, column, e := pipe.Parse(s)
	if line != 0 || column != 0 || e != api.OK {
		t.Fatalf("%q: %d %d %d", s, line, column, e)
	}
	return q
}

func ready(t *testing.T, s string) *pipe.Pipe {
	t.Helper()
	p, e := pipe.New(parse(t, s))
	if p == nil || e != api.OK {
		t.Fatal(s, e)
	}
	return p
}

func same(a, b api.Query) bool {
	text := func(q api.Query) string {
		s, e := pipe.Print(q)
		return s + string(rune('0'+e))
	}
	return text(a) == text(b)
}

// high is the text of a tree whose code needs a stack that is too high.
func high() string {
	return strings.Repeat("1 < 2 + 3 * (", 30) + "4" + strings.Repeat(")", 30)
}

func TestParse(t *testing.T) {
	num := func(n int) api.Node { return api.Node{Op: api.OpNumber, N: n} }
	for _, x := range []struct {
		s, print string
		w        api.Query
	}{
		{"", "", api.Query{}}, {" # nothing", "", api.Query{}},
		{"when 1", "when 1", api.Query{When: num(1)}},
		{"key 1", "key 1", api.Query{Key: num(1)}},
		{"value 1", "value 1", api.Query{Value: num(1)}},
		{"when 1 key 2 value 3", "when 1 key 2 value 3", api.Query{When: num(1), Key: num(2), Value: num(3)}},
		{"key key value value", "key key value value", api.Query{Key: api.Node{Op: api.OpKey}, Value: api.Node{Op: api.OpValue}}},
		{"when value>0\nkey key%2", "when value > 0 key key % 2", api.Query{
			When: api.Node{Op: api.OpGt, L: []api.Node{{Op: api.OpValue}, num(0)}},
			Key:  api.Node{Op: api.OpMod, L: []api.Node{{Op: api.OpKey}, num(2)}},
		}},
	} {
		q := parse(t, x.s)
		if !reflect.DeepEqual(strip(q), strip(x.w)) {
			t.Errorf("%q: %v", x.s, q)
		}
		if s, e := pipe.Print(q); s != x.print || e != api.OK {
			t.Errorf("%q: %q %d", x.s, s, e)
		}
	}
	for _, x := range []struct {
		s            string
		line, column int
		e            api.Errno
	}{
		{"key 1 when 2", 1, 7, api.ErrForm}, {"key 1\nkey 2", 2, 1, api.ErrForm}, {"value 1 key 1", 1, 9, api.ErrForm}, {"1", 1, 1, api.ErrForm}, {"where 1", 1, 1, api.ErrForm},
		{"when", 1, 5, api.ErrForm}, {"when key key", 1, 13, api.ErrForm}, {"when # x\n", 2, 1, api.ErrForm}, {"when 1 +\n * 2", 2, 2, api.ErrForm}, {"when 1 2", 1, 8, api.ErrForm},
		{"when 1 key (2", 1, 14, api.ErrForm}, {"when 1 value\n  )", 2, 3, api.ErrForm}, {"when " + strings.Repeat("(", 33), 1, 6 + 32, api.ErrFull},
		{"when 1 ?", 1, 8, api.ErrForm}, {"when + ?", 1, 8, api.ErrForm}, {"when\n99999999999999999999", 2, 1, api.ErrRange}, {strings.Repeat("\n", 4097), 1, 1, api.ErrArg},
		{"key 1" + strings.Repeat("+1", 200), 1, 5 + 257, api.ErrFull},
	} {
		q, line, column, e := pipe.Parse(x.s)
		if !reflect.DeepEqual(q, api.Query{}) || line != x.line || column != x.column || e != x.e {
			t.Errorf("%.30q: %v %d %d %d", x.s, q, line, column, e)
		}
	}
}

// strip makes the empty lists of a query's trees alike.
func strip(q api.Query) api.Query {
	var node func(n api.Node) api.Node
	node = func(n api.Node) api.Node {
		x := api.Node{Op: n.Op, N: n.N}
		for _, y := range n.L {
			x.L = append(x.L, node(y))
		}
		return x
	}
	return api.Query{When: node(q.When), Key: node(q.Key), Value: node(q.Value)}
}

func TestRead(t *testing.T) {
	for _, x := range []struct {
		s string
		k int
		w string
		e api.Errno
	}{
		{"when 1 key 2 ; value 3", 4, "when 1 key 2", api.OK}, {"; when 1", 0, "", api.OK}, {"", 0, "", api.OK}, {"value 3 when 1", 2, "value 3", api.OK},
		{"when 1 key + 2", 3, "", api.ErrForm}, {"when 1 key", 3, "", api.ErrForm}, {"key 1 value (2", 5, "", api.ErrForm},
	} {
		l, _, _ := lex.Cut(x.s)
		q, k, e := pipe.Read(l)
		if s, _ := pipe.Print(q); s != x.w || k != x.k || e != x.e {
			t.Errorf("%q: %q %d %d", x.s, s, k, e)
		}
	}
	// The words of clauses have to be words, those of trees do not.
	l := []api.Token{{Kind: api.TokSign, S: "when"}, {Kind: api.TokNumber, N: 1}}
	if q, k, e := pipe.Read(l); !reflect.DeepEqual(q, api.Query{}) || k != 0 || e != api.OK {
		t.Error(q, k, e)
	}
	l[0].Kind = api.TokWord
	l[1] = api.Token{Kind: 9, S: "key"}
	if q, k, e := pipe.Read(l); q.When.Op != api.OpKey || k != 2 || e != api.OK {
		t.Error(q, k, e)
	}
	// What may not be is read all the same.
	l[1] = api.Token{Kind: api.TokNumber, N: -1}
	q, k, e := pipe.Read(l)
	if q.When.N != -1 || k != 2 || e != api.OK || pipe.Check(q) != api.ErrArg {
		t.Error(q, k, e)
	}
}

func TestCheck(t *testing.T) {
	bad := []api.Node{{N: 1}, {L: []api.Node{{}}}, {Op: -1}, {Op: api.OpNumber, N: -1}, {Op: api.OpAdd}, {Op: api.OpKey, N: 1}}
	if n, _, e := tree.Parse(cut(high())); e == api.OK && tree.Check(n) == api.OK {
		bad = append(bad, n)
	} else {
		t.Error(e)
	}
	for i, n := range bad {
		for _, q := range []api.Query{{When: n}, {Key: n}, {Value: n}} {
			if e := pipe.Check(q); e != api.ErrArg {
				t.Errorf("%d: %d", i, e)
			}
			if s, e := pipe.Print(q); s != "" || e != api.ErrArg {
				t.Errorf("%d: %q %d", i, s, e)
			}
			if p, e := pipe.New(q); p != nil || e != api.ErrArg {
				t.Errorf("%d: %d", i, e)
			}
		}
	}
	if q, _, _, e := pipe.Parse("when " + high()); e != api.OK || pipe.Check(q) != api.ErrArg {
		t.Error(e)
	}
	for _, q := range []api.Query{{}, {When: api.Node{L: []api.Node{}}, Key: api.Node{Op: api.OpKey}}} {
		if e := pipe.Check(q); e != api.OK {
			t.Error(e)
		}
	}
}

func cut(s string) []api.Token {
	l, _, _ := lex.Cut(s)
	return l
}

func TestApply(t *testing.T) {
	bad := api.Record{Key: -5, Time: -6, Text: "\x02\x02"}
	for _, x := range []struct {
		s    string
		r, w api.Record
		ok   bool
	}{
		{"", rec(5, 2, 3), rec(5, 2, 3), true},
		{"", bad, bad, true}, {"when 0 key -1 value 7", bad, bad, true},
		{"when value >= 0 key key % 2 value value * 10 + time", rec(5, 2, 3), rec(1, 2, 32), true},
		{"when value >= 0 key key % 2 value value * 10", rec(5, 7, 3), rec(1, 7, 30), true},
		{"when value >= 0 key key % 2 value value * 10", rec(5, 2, -1), api.Record{}, false},
		{"when -7", rec(5, 2, 3), rec(5, 2, 3), true}, {"when 0", rec(5, 2, 3), api.Record{}, false},
		{"key -1", rec(5, 2, 3), api.Record{}, false}, {"key 1048576", rec(5, 2, 3), rec(api.MaxKey, 2, 3), true}, {"key 1048577", rec(5, 2, 3), api.Record{}, false},
		{"", rec(-1, 2, 3), api.Record{}, false}, {"", rec(api.MaxKey+1, 2, 3), api.Record{}, false}, {"key 1", rec(-1, -2, 3), rec(1, -2, 3), true},
		{"value -9223372036854775807 - 1", rec(5, 2, 3), rec(5, 2, math.MinInt), true},
		{"value key", rec(5, 2, 3), rec(5, 2, 5), true}, {"key value value key", rec(5, 2, 3), rec(3, 2, 5), true}, // all trees see the old record
	} {
		if r, ok := ready(t, x.s).Apply(x.r); r != x.w || ok != x.ok {
			t.Errorf("%q of %v: %v %v", x.s, x.r, r, ok)
		}
	}
	for _, p := range []*pipe.Pipe{nil} {
		for _, r := range []api.Record{bad, rec(-1, 2, 3), rec(5, 2, 3)} {
			if x, ok := p.Apply(r); x != r || !ok {
				t.Error(x, ok)
			}
			if l := p.All(r, r); !slices.Equal(l, []api.Record{r, r}) {
				t.Error(l)
			}
		}
		if l := p.All(); len(l) != 0 {
			t.Error(l)
		}
	}
	z := &pipe.Pipe{}
	if r, ok := z.Apply(rec(1, 2, 3)); r != rec(1, 2, 3) || !ok {
		t.Error(r, ok)
	}
}

func TestAll(t *testing.T) {
	p := ready(t, "when value >= 0 key key % 2 value value * 10")
	given := []api.Record{rec(5, 1, 3), rec(6, 2, -1), {Text: "\x80"}, rec(7, 4, 0)}
	l := slices.Clone(given)
	if got := p.All(l...); !slices.Equal(got, []api.Record{rec(1, 1, 30), {Text: "\x80"}, rec(1, 4, 0)}) {
		t.Error(got)
	}
	var none *pipe.Pipe
	none.All(l...)[0].Key = 9
	if !slices.Equal(l, given) {
		t.Error(l)
	}
}

func random(r *rand.Rand, depth int) api.Node {
	if depth == 0 {
		return []api.Node{{Op: api.OpNumber, N: r.Intn(3)}, {Op: api.OpKey}, {Op: api.OpTime}, {Op: api.OpValue}}[r.Intn(4)]
	}
	n := api.Node{Op: api.OpNot + r.Intn(17), L: []api.Node{random(r, depth-1)}}
	if n.Op != api.OpNot {
		n.L = append(n.L, random(r, depth-1))
	}
	if n.Op == api.OpIf {
		n.L = append(n.L, random(r, depth-1))
	}
	return n
}

// TestConsequences: a query is printed and read again, and does what its trees' values say.
func TestConsequences(t *testing.T) {
	r := rand.New(rand.NewSource(1))
	for range 3000 {
		var q api.Query
		for _, n := range []*api.Node{&q.When, &q.Key, &q.Value} {
			if r.Intn(3) > 0 {
				*n = random(r, r.Intn(4))
			}
		}
		s, e := pipe.Print(q)
		if e != api.OK || !same(parse(t, s), q) || !reflect.DeepEqual(strip(parse(t, s)), strip(q)) {
			t.Fatal(s, e)
		}
		p, _ := pipe.New(q)
		x := rec(r.Intn(9)-1, r.Intn(5), r.Intn(9)-4)
		eval := func(n api.Node, other int) int {
			if n.Op == 0 {
				return other
			}
			v, _ := engine.Value(x)
			w, _ := tree.Eval(n, x.Key, x.Time, v)
			return w
		}
		v, _ := engine.Value(x)
		w := rec(eval(q.Key, x.Key), x.Time, eval(q.Value, v))
		ok := eval(q.When, 1) != 0 && w.Key >= 0 && w.Key <= api.MaxKey
		if !ok {
			w = api.Record{}
		}
		if got, through := p.Apply(x); got != w || through != ok {
			t.Fatalf("%q of %v: %v %v, not %v %v", s, x, got, through, w, ok)
		}
	}
}
