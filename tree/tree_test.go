package tree_test

import (
	"math"
	"math/rand"
	"reflect"
	"strings"
	"testing"

	"headgate/api"
	"headgate/lex"
	"headgate/tree"
)

func num(n int) api.Node {
	return api.Node{Op: api.OpNumber, N: n}
}

func op(k int, l ...api.Node) api.Node {
	return api.Node{Op: k, L: l}
}

var key, time, value = op(api.OpKey), op(api.OpTime), op(api.OpValue)

func cut(t *testing.T, s string) []api.Token {
	t.Helper()
	l, _, e := lex.Cut(s)
	if e != api.OK {
		t.Fatal(s, e)
	}
	return l
}

func parse(t *testing.T, s string) api.Node {
	t.Helper()
	l := cut(t, s)
	n, k, e := tree.Parse(l)
	if k != len(l) || e != api.OK {
		t.Fatalf("%q: %d %d", s, k, e)
	}
	return n
}

// same compares trees; nil and empty lists are alike.
func same(a, b api.Node) bool {
	if a.Op != b.Op || a.N != b.N || len(a.L) != len(b.L) {
		return false
	}
	for i := range a.L {
		if !same(a.L[i], b.L[i]) {
			return false
		}
	}
	return true
}

func TestParse(t *testing.T) {
	for _, x := range []struct {
		s     string
		w     api.Node
		print string
	}{
		{"0", num(0), "0"},
		{"9223372036854775807", num(math.MaxInt), "9223372036854775807"},
		{"key", key, "key"}, {"time", time, "time"}, {"value", value, "value"},
		{"--1", op(api.OpNeg, op(api.OpNeg, num(1))), "--1"},
		{"not not 1", op(api.OpNot, op(api.OpNot, num(1))), "not not 1"},
		{"not 1 = 2", op(api.OpNot, op(api.OpEq, num(1), num(2))), "not 1 = 2"},
		{"(not 1) = 2", op(api.OpEq, op(api.OpNot, num(1)), num(2)), "(not 1) = 2"},
		{"-1*2", op(api.OpMul, op(api.OpNeg, num(1)), num(2)), "-1 * 2"},
		{"-(1*2)", op(api.OpNeg, op(api.OpMul, num(1), num(2))), "-(1 * 2)"},
		{"1+2*3", op(api.OpAdd, num(1), op(api.OpMul, num(2), num(3))), "1 + 2 * 3"},
		{"(1+2)*3", op(api.OpMul, op(api.OpAdd, num(1), num(2)), num(3)), "(1 + 2) * 3"},
		{"1-2-3", op(api.OpSub, op(api.OpSub, num(1), num(2)), num(3)), "1 - 2 - 3"},
		{"10-(3-2)", op(api.OpSub, num(10), op(api.OpSub, num(3), num(2))), "10 - (3 - 2)"},
		{"1/2%3*4", op(api.OpMul, op(api.OpMod, op(api.OpDiv, num(1), num(2)), num(3)), num(4)), "1 / 2 % 3 * 4"},
		{"1*(2/3)", op(api.OpMul, num(1), op(api.OpDiv, num(2), num(3))), "1 * (2 / 3)"},
		{"1 <> 2", op(api.OpNe, num(1), num(2)), "1 <> 2"},
		{"(1<2)<3", op(api.OpLt, op(api.OpLt, num(1), num(2)), num(3)), "(1 < 2) < 3"},
		{"1<=(2>=3)", op(api.OpLe, num(1), op(api.OpGe, num(2), num(3))), "1 <= (2 >= 3)"},
		{"1+1>2", op(api.OpGt, op(api.OpAdd, num(1), num(1)), num(2)), "1 + 1 > 2"},
		{"1 or 2 and 3 or 4", op(api.OpOr, op(api.OpOr, num(1), op(api.OpAnd, num(2), num(3))), num(4)), "1 or 2 and 3 or 4"},
		{"1 and (2 or 3)", op(api.OpAnd, num(1), op(api.OpOr, num(2), num(3))), "1 and (2 or 3)"},
		{"1 or (2 or 3)", op(api.OpOr, num(1), op(api.OpOr, num(2), num(3))), "1 or (2 or 3)"},
		{"1 and not 2 and 3", op(api.OpAnd, op(api.OpAnd, num(1), op(api.OpNot, num(2))), num(3)), "1 and not 2 and 3"},
		{"1+value*2<7 and not key=3", op(api.OpAnd, op(api.OpLt, op(api.OpAdd, num(1), op(api.OpMul, value, num(2))), num(7)), op(api.OpNot, op(api.OpEq, key, num(3)))), "1 + value * 2 < 7 and not key = 3"},
		{"min(1 or 2,max(3,-4))", op(api.OpMin, op(api.OpOr, num(1), num(2)), op(api.OpMax, num(3), op(api.OpNeg, num(4)))), "min(1 or 2, max(3, -4))"},
		{"if 1 or 2 then 3 or 4 else if 5 then 6 else 7 end end", op(api.OpIf, op(api.OpOr, num(1), num(2)), op(api.OpOr, num(3), num(4)), op(api.OpIf, num(5), num(6), num(7))), "if 1 or 2 then 3 or 4 else if 5 then 6 else 7 end end"},
		{"-if 1 then 2 else 3 end+min(1,2)", op(api.OpAdd, op(api.OpNeg, op(api.OpIf, num(1), num(2), num(3))), op(api.OpMin, num(1), num(2))), "-if 1 then 2 else 3 end + min(1, 2)"},
		{"((((1))))", num(1), "1"},
	} {
		n := parse(t, x.s)
		if !same(n, x.w) {
			t.Errorf("%q: %v", x.s, n)
		}
		if s, e := tree.Print(n); s != x.print || e != api.OK {
			t.Errorf("%q: %q %d", x.s, s, e)
		}
	}
}

// TestParsePart: a tree ends where the tokens can't continue it.
func TestParsePart(t *testing.T) {
	for _, x := range []struct {
		s string
		k int
		e api.Errno
	}{
		{"1 < 2 < 3", 3, api.OK}, {"1 2", 1, api.OK}, {"1 then", 1, api.OK}, {"key value", 1, api.OK}, {"1 not 2", 1, api.OK}, {"1 )", 1, api.OK}, {"1 foo", 1, api.OK}, {"1 ,", 1, api.OK},
		{"", 0, api.ErrForm}, {"1 +", 2, api.ErrForm}, {"1 + *", 2, api.ErrForm}, {"foo", 0, api.ErrForm}, {")", 0, api.ErrForm}, {"then", 0, api.ErrForm},
		{"1 + not 2", 2, api.ErrForm}, {"1 = not 2", 2, api.ErrForm}, {"-not 2", 1, api.ErrForm}, {"not", 1, api.ErrForm}, {"-", 1, api.ErrForm}, {"not and", 1, api.ErrForm},
		{"(1", 2, api.ErrForm}, {"(1 2", 2, api.ErrForm}, {"( )", 1, api.ErrForm}, {"(1 < 2 < 3)", 4, api.ErrForm},
		{"min", 1, api.ErrForm}, {"min 1", 1, api.ErrForm}, {"min(1)", 3, api.ErrForm}, {"min(1,", 4, api.ErrForm}, {"min(1,2", 5, api.ErrForm}, {"min(1,2,3)", 5, api.ErrForm}, {"max(", 2, api.ErrForm},
		{"if", 1, api.ErrForm}, {"if 1", 2, api.ErrForm}, {"if 1 else", 2, api.ErrForm}, {"if 1 then 2 end", 4, api.ErrForm}, {"if 1 then 2 else 3", 6, api.ErrForm}, {"if 1 then 2 else 3 4", 6, api.ErrForm}, {"if then", 1, api.ErrForm},
		{"1 or 2 and", 4, api.ErrForm}, {"(((1 + )))", 5, api.ErrForm},
	} {
		n, k, e := tree.Parse(cut(t, x.s))
		if k != x.k || e != x.e || e != api.OK && !same(n, api.Node{}) {
			t.Errorf("%q: %v %d %d", x.s, n, k, e)
		}
	}
}

// TestParseTokens: of a token nothing counts but its kind, and its number or its word.
func TestParseTokens(t *testing.T) {
	n, k, e := tree.Parse([]api.Token{{Kind: api.TokNumber, N: -5, S: "key", At: 9}, {Kind: 77, N: 4, S: "+"}, {S: "key"}, {Kind: api.TokNumber, S: "*"}})
	if !same(n, op(api.OpAdd, num(-5), key)) || k != 3 || e != api.OK {
		t.Error(n, k, e)
	}
	if n, k, e := tree.Parse([]api.Token{{Kind: api.TokWord}}); !same(n, api.Node{}) || k != 0 || e != api.ErrForm {
		t.Error(n, k, e)
	}
	if tree.Check(n) != api.ErrArg {
		t.Error("a number below 0 may not be")
	}
}

func TestParseDepth(t *testing.T) {
	for _, x := range []struct {
		open, shut string
		tokens     int
	}{{"(", ")", 1}, {"-", "", 1}, {"not ", "", 1}, {"min(", ",2)", 2}, {"max(1,", ")", 4}, {"if ", " then 1 else 2 end", 1}, {"if 1 then ", " else 3 end", 3}, {"if 1 then 2 else ", " end", 5}} {
		inner, shut := "1", x.shut
		if x.open == "not " || x.open == "-" {
			shut = ""
		}
		for n := 30; n <= 40; n++ {
			s := strings.Repeat(x.open, n) + inner + strings.Repeat(shut, n)
			got, k, e := tree.Parse(cut(t, s))
			if n <= 32 && (e != api.OK || k != len(cut(t, s))) || n > 32 && (e != api.ErrFull || k != 32*x.tokens || !same(got, api.Node{})) {
				t.Errorf("%q %d: %d %d", x.open, n, k, e)
			}
		}
	}
	// What is closed does not count.
	s := strings.Repeat("(1) + ", 60) + "-(not (1))"
	if _, k, e := tree.Parse(cut(t, s)); k != len(cut(t, s)) || e != api.OK {
		t.Error(k, e)
	}
	// The depth is looked at ahead of everything behind it.
	if _, k, e := tree.Parse(cut(t, strings.Repeat("(", 33))); k != 32 || e != api.ErrFull {
		t.Error(k, e)
	}
	if _, k, e := tree.Parse(cut(t, strings.Repeat("(", 32))); k != 32 || e != api.ErrForm {
		t.Error(k, e)
	}
}

func TestParseNodes(t *testing.T) {
	// 128 numbers with 127 signs are 255 nodes; one more number is the last node that may be.
	s := "1" + strings.Repeat("+1", 127)
	if n, ok := tree.Size(parse(t, s)); n != 255 || !ok {
		t.Error(n, ok)
	}
	if n, ok := tree.Size(parse(t, "-("+s+")")); n != 256 || !ok {
		t.Error(n, ok)
	}
	for _, x := range []struct {
		s    string
		left int // tokens that are not read
	}{
		{"-(" + s + ")+1", 0},   // the number behind the sign is the one too many
		{s + "+1+2", 2},         // the second sum ahead of the last one
		{"not -(" + s + ")", 0}, // not itself, behind its tree
		{"not -(" + s + ") and 1", 2},
		{"min(-(" + s + "),key)", 1},                         // key
		{"min(1," + s + ")", 0},                              // min itself, behind its parenthesis
		{"if 1 then 2 else -(" + s[2:] + ") end + 3 - 4", 4}, // if itself
		{"if 1 then 2 else " + s[2:] + " end + 3 - 4", 2},    // the number behind it
	} {
		l := cut(t, x.s)
		if n, k, e := tree.Parse(l); k != len(l)-x.left || e != api.ErrFull || !same(n, api.Node{}) {
			t.Errorf("%.20q: %d of %d, %d", x.s, k, len(l), e)
		}
	}
}

func TestCheck(t *testing.T) {
	wide := num(1)
	for range 127 {
		wide = op(api.OpAdd, wide, num(1))
	}
	deep := key
	for range 255 {
		deep = op(api.OpNeg, deep)
	}
	loop := []api.Node{{Op: api.OpNeg}}
	loop[0].L = loop
	for i, x := range []struct {
		n    api.Node
		size int
	}{
		{num(0), 1}, {num(math.MaxInt), 1}, {wide, 255}, {op(api.OpNeg, wide), 256}, {deep, 256},
		{op(api.OpIf, key, time, value), 4}, {op(api.OpMax, key, time), 3}, {api.Node{Op: api.OpKey, L: []api.Node{}}, 1},
		{api.Node{}, 0}, {op(-1), 0}, {op(23), 0}, {op(30), 0}, {op(math.MinInt), 0}, {num(-1), 0}, {num(math.MinInt), 0},
		{api.Node{Op: api.OpKey, N: 1}, 0}, {api.Node{Op: api.OpNeg, N: 1, L: []api.Node{key}}, 0}, {op(api.OpNumber, key), 0}, {op(api.OpValue, key), 0},
		{op(api.OpNeg), 0}, {op(api.OpNot, key, key), 0}, {op(api.OpAdd, key), 0}, {op(api.OpOr, key, key, key), 0}, {op(api.OpMin, key), 0}, {op(api.OpIf, key, key), 0}, {op(api.OpIf), 0},
		{op(api.OpNeg, op(api.OpNeg, num(-1))), 0}, {op(api.OpAdd, key, api.Node{}), 0},
		{op(api.OpNeg, deep), 0}, {op(api.OpAdd, wide, num(1)), 0}, {loop[0], 0},
	} {
		if size, ok := tree.Size(x.n); size != x.size || ok != (x.size > 0) {
			t.Errorf("%d: Size = %d %v", i, size, ok)
		}
		e := tree.Check(x.n)
		if (e == api.OK) != (x.size > 0) || e != api.OK && e != api.ErrArg {
			t.Errorf("%d: Check = %d", i, e)
		}
		if e == api.OK {
			continue
		}
		if s, err := tree.Print(x.n); s != "" || err != e {
			t.Errorf("%d: Print = %q %d", i, s, err)
		}
		if v, err := tree.Eval(x.n, 1, 1, 1); v != 0 || err != e {
			t.Errorf("%d: Eval = %d %d", i, v, err)
		}
		if n, err := tree.Fold(x.n); !same(n, api.Node{}) || err != e {
			t.Errorf("%d: Fold = %v %d", i, n, err)
		}
	}
}

func TestApply(t *testing.T) {
	const low, top = math.MinInt, math.MaxInt
	for _, x := range [][4]int{
		{api.OpNeg, 5, 9, -5}, {api.OpNeg, low, 0, low}, {api.OpNot, 0, 9, 1}, {api.OpNot, -3, 0, 0},
		{api.OpMul, 3, -4, -12}, {api.OpMul, top, 2, -2}, {api.OpAdd, top, 1, low}, {api.OpSub, low, 1, top}, {api.OpSub, 3, 5, -2},
		{api.OpDiv, 7, 2, 3}, {api.OpDiv, -7, 2, -3}, {api.OpDiv, 7, -2, -3}, {api.OpDiv, 7, 0, 0}, {api.OpDiv, low, -1, low},
		{api.OpMod, 7, 3, 1}, {api.OpMod, -7, 3, -1}, {api.OpMod, 7, -3, 1}, {api.OpMod, 7, 0, 0}, {api.OpMod, low, -1, 0},
		{api.OpEq, 2, 2, 1}, {api.OpEq, 2, 3, 0}, {api.OpNe, 2, 2, 0}, {api.OpNe, 2, 3, 1}, {api.OpLt, -1, 0, 1}, {api.OpLt, 0, 0, 0}, {api.OpLe, 0, 0, 1}, {api.OpLe, 1, 0, 0},
		{api.OpGt, 1, 0, 1}, {api.OpGt, 0, 0, 0}, {api.OpGe, 0, 0, 1}, {api.OpGe, -1, 0, 0},
		{api.OpAnd, 2, -3, 1}, {api.OpAnd, 2, 0, 0}, {api.OpAnd, 0, 2, 0}, {api.OpOr, 0, 0, 0}, {api.OpOr, 0, -4, 1}, {api.OpOr, 5, 0, 1},
		{api.OpMin, 2, -3, -3}, {api.OpMax, 2, -3, 2}, {api.OpMin, low, top, low}, {api.OpMax, low, top, top},
		{api.OpNumber, 2, 3, 0}, {api.OpKey, 2, 3, 0}, {api.OpValue, 2, 3, 0}, {api.OpIf, 2, 3, 0}, {0, 2, 3, 0}, {-1, 2, 3, 0}, {23, 2, 3, 0}, {api.InstrBool, 2, 3, 0}, {low, 2, 3, 0},
	} {
		if v := tree.Apply(x[0], x[1], x[2]); v != x[3] {
			t.Errorf("Apply(%d, %d, %d) = %d", x[0], x[1], x[2], v)
		}
	}
}

func TestEval(t *testing.T) {
	for _, x := range []struct {
		s string
		w int
	}{
		{"1+2*3", 7}, {"key*100+time*10+value", 345}, {"if key then 8 else 9 end", 8}, {"if key - 3 then 8 else 9 end", 9}, {"if -1 then 8 else 9 end", 8},
		{"not key", 0}, {"not 0", 1}, {"1 and 2", 1}, {"0 or 7", 1}, {"min(key, value)", 3}, {"max(key, -value)", 3}, {"7 % 4 / 2", 1}, {"key / 0", 0}, {"-9223372036854775807 - 1", math.MinInt},
	} {
		if v, e := tree.Eval(parse(t, x.s), 3, 4, 5); v != x.w || e != api.OK {
			t.Errorf("%q: %d %d", x.s, v, e)
		}
	}
}

func TestFold(t *testing.T) {
	for _, x := range [][2]string{
		{"if 1 < 2 then value + 0 * 5 else 9 end", "value + 0"}, {"1 + 2 * 3", "7"}, {"3 - 5", "-2"}, {"-5", "-5"}, {"-0", "-0"}, {"--5", "5"}, {"---5", "-5"}, {"5", "5"}, {"key", "key"},
		{"key + (1 + 2)", "key + 3"}, {"key + 1 + 2", "key + 1 + 2"}, {"not 0", "1"}, {"not -3", "0"}, {"-(1 + 1)", "-2"}, {"-(1 - 3)", "2"},
		{"if key then 1 + 1 else 2 + 2 end", "if key then 2 else 4 end"}, {"if -0 then key else time end", "time"}, {"if -1 then key else time end", "key"}, {"if 0 then if 1 then 2 else 3 end else if 1 then value else 3 end end", "value"},
		{"if if 1 then 0 else 1 end then key else 1 - 2 end", "-1"}, {"-9223372036854775807 - 1", "-9223372036854775807 - 1"}, {"-(-9223372036854775807 - 1)", "-(-9223372036854775807 - 1)"}, {"9223372036854775807 + 1", "9223372036854775807 + 1"},
		{"min(3, -4)", "-4"}, {"1 / 0 or 7", "1"}, {"0 and key", "0 and key"}, {"5 % 0", "0"}, {"-9223372036854775807 - (2 - 1)", "-9223372036854775807 - 1"}, {"-(2 * 3) * 2", "-12"},
	} {
		n, e := tree.Fold(parse(t, x[0]))
		if s, _ := tree.Print(n); s != x[1] || e != api.OK || tree.Check(n) != api.OK {
			t.Errorf("%q: %q %d", x[0], s, e)
		}
	}
}

// random tells some tree of at most so many levels; negative numbers have their "-".
func random(r *rand.Rand, depth int) api.Node {
	if depth == 0 || r.Intn(6) == 0 {
		return []api.Node{num(r.Intn(4)), num(math.MaxInt - r.Intn(2)), num(r.Intn(200)), key, time, value}[r.Intn(6)]
	}
	k := api.OpNeg + r.Intn(18)
	var l []api.Node
	for range map[bool]int{true: 1, false: 2}[k == api.OpNeg || k == api.OpNot] {
		l = append(l, random(r, depth-1))
	}
	if k == api.OpIf {
		l = append(l, random(r, depth-1))
	}
	return op(k, l...)
}

func TestConsequences(t *testing.T) {
	r := rand.New(rand.NewSource(1))
	for range 20000 {
		n := random(r, r.Intn(6))
		given := clone(n)
		s, e := tree.Print(n)
		if e != api.OK {
			t.Fatal(e)
		}
		got, k, e := tree.Parse(cut(t, s))
		if !same(got, n) || k != len(cut(t, s)) || e != api.OK {
			t.Fatalf("%q: %d %d", s, k, e)
		}
		f, e := tree.Fold(n)
		if e != api.OK {
			t.Fatal(e)
		}
		for range 5 {
			a, b, c := r.Intn(5)-2, r.Intn(5)-2, int(r.Uint64())>>r.Intn(64)
			v, _ := tree.Eval(n, a, b, c)
			if w, e := tree.Eval(f, a, b, c); w != v || e != api.OK {
				t.Fatalf("%q: %d %d %d", s, v, w, e)
			}
		}
		scratch(f)
		scratch(got)
		if !reflect.DeepEqual(n, given) {
			t.Fatal("the argument is changed")
		}
	}
}

func clone(n api.Node) api.Node {
	c := api.Node{Op: n.Op, N: n.N}
	for _, x := range n.L {
		c.L = append(c.L, clone(x))
	}
	return c
}

// scratch spoils a tree, so that what shares memory with it is spoilt, too.
func scratch(n api.Node) {
	for i := range n.L {
		scratch(n.L[i])
		n.L[i] = api.Node{}
	}
}
