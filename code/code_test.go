package code_test

import (
	"math"
	"math/rand"
	"slices"
	"testing"

	"headgate/api"
	"headgate/code"
	"headgate/lex"
	"headgate/tree"
)

func ins(op int, n ...int) api.Instr {
	x := api.Instr{Op: op}
	if len(n) > 0 {
		x.N = n[0]
	}
	return x
}

func num(n int) api.Instr  { return ins(api.OpNumber, n) }
func jump(n int) api.Instr { return ins(api.InstrJump, n) }
func zero(n int) api.Instr { return ins(api.InstrZero, n) }

var key, time, value, toBool = ins(api.OpKey), ins(api.OpTime), ins(api.OpValue), ins(api.InstrBool)

func parse(t *testing.T, s string) api.Node {
	t.Helper()
	l, _, _ := lex.Cut(s)
	n, k, e := tree.Parse(l)
	if k != len(l) || e != api.OK {
		t.Fatal(s, k, e)
	}
	return n
}

func compile(t *testing.T, s string) []api.Instr {
	t.Helper()
	l, e := code.Compile(parse(t, s))
	if e != api.OK {
		t.Fatal(s, e)
	}
	return l
}

func TestCompile(t *testing.T) {
	for _, x := range []struct {
		s string
		w []api.Instr
	}{
		{"7", []api.Instr{num(7)}},
		{"1 + 2 * 3", []api.Instr{num(1), num(2), num(3), ins(api.OpMul), ins(api.OpAdd)}},
		{"-key", []api.Instr{key, ins(api.OpNeg)}},
		{"not min(time, 2)", []api.Instr{time, num(2), ins(api.OpMin), ins(api.OpNot)}},
		{"value > 3 and key", []api.Instr{value, num(3), ins(api.OpGt), zero(7), key, toBool, jump(8), num(0)}},
		{"key or time", []api.Instr{key, zero(4), num(1), jump(6), time, toBool}},
		{"if key then time else value end", []api.Instr{key, zero(4), time, jump(5), value}},
		{"if key or 1 then 2 else 3 end + 4", []api.Instr{key, zero(4), num(1), jump(6), num(1), toBool, zero(9), num(2), jump(10), num(3), num(4), ins(api.OpAdd)}},
	} {
		if l := compile(t, x.s); !slices.Equal(l, x.w) {
			t.Errorf("%q: %v", x.s, l)
		}
	}
	if l, e := code.Compile(api.Node{}); l != nil || e != api.ErrArg {
		t.Error(l, e)
	}
	// 64 numbers are on the stack at once; with 65 it is full.
	for n := 62; n <= 66; n++ {
		x := api.Node{Op: api.OpKey}
		for range n - 1 {
			x = api.Node{Op: api.OpAdd, L: []api.Node{{Op: api.OpKey}, x}}
		}
		l, e := code.Compile(x)
		if n <= 64 && (len(l) != 2*n-1 || e != api.OK) || n > 64 && (l != nil || e != api.ErrFull) {
			t.Error(n, len(l), e)
		}
	}
}

func TestCheck(t *testing.T) {
	long := []api.Instr{key}
	for len(long) < api.MaxCode {
		long = append(long, ins(api.OpNeg))
	}
	var high []api.Instr
	for range 64 {
		high = append(high, key)
	}
	for range 63 {
		high = append(high, ins(api.OpAdd))
	}
	for i, x := range []struct {
		l []api.Instr
		e api.Errno
	}{
		{[]api.Instr{num(math.MinInt)}, api.OK},
		{long, api.OK},
		{append(slices.Clone(long), ins(api.OpNeg)), api.ErrArg},
		{high, api.OK},
		{append([]api.Instr{key}, append(slices.Clone(high), ins(api.OpAdd))...), api.ErrArg},
		{nil, api.ErrArg},
		{[]api.Instr{num(1), num(2)}, api.ErrArg},
		{[]api.Instr{ins(api.OpKey, 1)}, api.ErrArg},
		{[]api.Instr{key, ins(api.OpNeg, 1)}, api.ErrArg},
		{[]api.Instr{key, ins(api.InstrBool, -1)}, api.ErrArg},
		{[]api.Instr{ins(api.OpNeg)}, api.ErrArg},
		{[]api.Instr{key, ins(api.OpAdd)}, api.ErrArg},
		{[]api.Instr{zero(1), key}, api.ErrArg},
		{[]api.Instr{ins(0)}, api.ErrArg}, {[]api.Instr{ins(-1)}, api.ErrArg}, {[]api.Instr{ins(33)}, api.ErrArg},
		{[]api.Instr{key, key, ins(api.OpAnd)}, api.ErrArg}, {[]api.Instr{key, key, ins(api.OpOr)}, api.ErrArg}, {[]api.Instr{key, key, key, ins(api.OpIf)}, api.ErrArg},
		{[]api.Instr{key, key, ins(23)}, api.ErrArg},
		{[]api.Instr{key, jump(2)}, api.OK},
		{[]api.Instr{key, jump(1)}, api.ErrArg},
		{[]api.Instr{key, jump(0)}, api.ErrArg},
		{[]api.Instr{key, jump(3)}, api.ErrArg},
		{[]api.Instr{key, jump(math.MaxInt)}, api.ErrArg},
		{[]api.Instr{key, jump(math.MinInt)}, api.ErrArg},
		{[]api.Instr{jump(2), ins(api.OpAdd), key}, api.OK},        // what is not reached needs no numbers
		{[]api.Instr{jump(2), ins(99), key}, api.ErrArg},           // but has to be an instruction
		{[]api.Instr{jump(2), jump(1), key}, api.ErrArg},           // that goes on
		{[]api.Instr{jump(2), jump(3), key}, api.OK},               //
		{[]api.Instr{jump(2), ins(api.OpKey, 1), key}, api.ErrArg}, // with the right number
		{[]api.Instr{key, zero(3), key}, api.ErrArg},               // one way leaves nothing
		{[]api.Instr{key, zero(4), key, jump(5), key}, api.OK},
		{[]api.Instr{key, zero(4), key, key, key}, api.ErrArg},
		{[]api.Instr{key, zero(3), jump(4), key}, api.ErrArg},
		{[]api.Instr{key, key, zero(3)}, api.OK},
		{[]api.Instr{jump(1)}, api.ErrArg},
	} {
		e := code.Check(x.l)
		if e != x.e {
			t.Errorf("%d: %d", i, e)
		}
		v, err := code.Run(x.l, 1, 2, 3)
		if err != e || e != api.OK && v != 0 {
			t.Errorf("%d: Run = %d %d", i, v, err)
		}
		l, err := code.Better(x.l)
		if err != e || e != api.OK && l != nil {
			t.Errorf("%d: Better = %v %d", i, l, err)
		}
	}
}

func TestRun(t *testing.T) {
	for _, x := range []struct {
		l []api.Instr
		w int
	}{
		{[]api.Instr{num(math.MinInt)}, math.MinInt},
		{[]api.Instr{key, time, ins(api.OpSub)}, -1},
		{[]api.Instr{value, toBool}, 1}, {[]api.Instr{num(0), toBool}, 0}, {[]api.Instr{num(-7), toBool}, 1},
		{[]api.Instr{num(0), zero(4), key, jump(5), time}, 4}, {[]api.Instr{num(-1), zero(4), key, jump(5), time}, 3},
		{[]api.Instr{key, value, time, ins(api.OpMax), ins(api.OpMul), ins(api.OpNeg), ins(api.OpNot)}, 0},
		{[]api.Instr{key, num(0), ins(api.OpDiv)}, 0}, {[]api.Instr{num(math.MinInt), num(-1), ins(api.OpMod)}, 0},
	} {
		if v, e := code.Run(x.l, 3, 4, 5); v != x.w || e != api.OK {
			t.Errorf("%v: %d %d", x.l, v, e)
		}
	}
	if v, e := code.Run(compile(t, "value * 2 + key"), 3, 4, 5); v != 13 || e != api.OK {
		t.Error(v, e)
	}
}

func TestBetter(t *testing.T) {
	not := ins(api.OpNot)
	for i, x := range []struct{ l, w []api.Instr }{
		{[]api.Instr{num(1), zero(4), key, jump(5), time, jump(6)}, []api.Instr{key, jump(3), time}},
		{[]api.Instr{key}, []api.Instr{key}},
		{[]api.Instr{key, jump(2)}, []api.Instr{key}},
		{[]api.Instr{key, not, toBool}, []api.Instr{key, not}},
		{[]api.Instr{key, toBool, toBool}, []api.Instr{key, toBool, toBool}},
		{[]api.Instr{key, time, ins(api.OpEq), toBool, toBool}, []api.Instr{key, time, ins(api.OpEq)}},
		{[]api.Instr{key, time, ins(api.OpGe), toBool}, []api.Instr{key, time, ins(api.OpGe)}},
		{[]api.Instr{key, time, ins(api.OpMin), toBool}, []api.Instr{key, time, ins(api.OpMin), toBool}},
		{[]api.Instr{key, time, ins(api.OpSub), toBool}, []api.Instr{key, time, ins(api.OpSub), toBool}},
		// Where a jump lands, nothing is known of what is ahead.
		{[]api.Instr{key, zero(4), num(2), jump(6), num(3), not, toBool}, []api.Instr{key, zero(4), num(2), jump(6), num(3), not, toBool}},
		{[]api.Instr{key, zero(4), num(0), jump(5), num(3), zero(8), key, jump(9), time}, []api.Instr{key, zero(4), num(0), jump(5), num(3), zero(8), key, jump(9), time}},
		{[]api.Instr{num(0), zero(4), key, jump(5), time}, []api.Instr{num(0), zero(4), key, jump(5), time}},
		{[]api.Instr{num(-1), zero(4), key, jump(5), time}, []api.Instr{key, jump(3), time}},
		// What jumped to instructions that are gone, jumps to those behind them.
		{[]api.Instr{time, key, zero(3), num(5), zero(6), jump(6), toBool}, []api.Instr{time, key, zero(3), toBool}},
		// A jump to a jump leads where that one leads, but only when nothing else is to be done.
		{[]api.Instr{key, zero(4), time, jump(5), value, jump(7), not, not}, []api.Instr{key, zero(4), time, jump(7), value, jump(7), not, not}},
		{[]api.Instr{key, key, zero(4), jump(5), jump(7), not, not, not}, []api.Instr{key, key, zero(7), jump(5), jump(7), not, not, not}},
	} {
		given := slices.Clone(x.l)
		l, e := code.Better(x.l)
		if !slices.Equal(l, x.w) || e != api.OK {
			t.Errorf("%d: %v %d, not %v", i, l, e, x.w)
		}
		l[0].Op = 99
		if !slices.Equal(x.l, given) {
			t.Errorf("%d: the argument is changed", i)
		}
	}
}

// TestBetterEnds: behind 4096 changes it ends, even if there is more to do.
func TestBetterEnds(t *testing.T) {
	const n = 1000
	var l []api.Instr
	for i := range n {
		l = append(l, jump(i+2))
	}
	l = append(l, key)
	// A jump goes on by two at each change, and the next one is changed only when it is at the end.
	want, left := slices.Clone(l), 4096
	for i := range n {
		steps := min(left, (n-1-(i+2))/2+1)
		if i+2 >= n {
			steps = 0
		}
		want[i].N += 2 * steps
		left -= steps
	}
	if left != 0 {
		t.Fatal(left)
	}
	if got, e := code.Better(l); !slices.Equal(got, want) || e != api.OK {
		t.Error(e)
	}
}

// ways tries all ways through code, and tells whether it may be.
func ways(l []api.Instr) bool {
	heights := map[int]map[int]bool{}
	end := false
	var walk func(at, h int) bool
	walk = func(at, h int) bool {
		if heights[at] == nil {
			heights[at] = map[int]bool{}
		}
		if heights[at][h] {
			return true
		}
		heights[at][h] = true
		if h > 64 || len(heights[at]) > 1 {
			return false
		}
		if at == len(l) {
			end = true
			return h == 1
		}
		x := l[at]
		switch x.Op {
		case api.OpNumber, api.OpKey, api.OpTime, api.OpValue:
			return walk(at+1, h+1)
		case api.OpNeg, api.OpNot, api.InstrBool:
			return h >= 1 && walk(at+1, h)
		case api.InstrJump:
			return walk(x.N, h)
		case api.InstrZero:
			return h >= 1 && walk(at+1, h-1) && walk(x.N, h-1)
		}
		return h >= 2 && walk(at+1, h-1)
	}
	return len(l) > 0 && walk(0, 0) && end
}

func TestCheckAny(t *testing.T) {
	r := rand.New(rand.NewSource(1))
	good := 0
	for range 300000 {
		n := 1 + r.Intn(9)
		l := make([]api.Instr, n)
		for i := range l {
			l[i] = []api.Instr{num(r.Intn(3)), key, ins(api.OpNot), ins(api.OpAdd), toBool, jump(i + 1 + r.Intn(n-i)), zero(i + 1 + r.Intn(n-i)), ins(api.OpEq)}[r.Intn(8)]
		}
		e := code.Check(l)
		if (e == api.OK) != ways(l) {
			t.Fatal(l, e)
		}
		if e != api.OK {
			continue
		}
		good++
		same(t, l, r)
	}
	if good < 1000 {
		t.Error(good)
	}
}

// same checks that better code has the same value, may be, is not longer, and can't be made better.
func same(t *testing.T, l []api.Instr, r *rand.Rand) {
	t.Helper()
	b, e := code.Better(l)
	if e != api.OK || code.Check(b) != api.OK || len(b) > len(l) {
		t.Fatal(l, b, e)
	}
	if c, _ := code.Better(b); !slices.Equal(c, b) {
		t.Fatal(b, c)
	}
	for range 3 {
		k, m, v := r.Intn(3)-1, r.Intn(3)-1, int(r.Uint64())>>r.Intn(64)
		x, _ := code.Run(l, k, m, v)
		if y, e := code.Run(b, k, m, v); x != y || e != api.OK {
			t.Fatal(l, b, x, y, e)
		}
	}
}

func random(r *rand.Rand, depth int) api.Node {
	if depth == 0 || r.Intn(6) == 0 {
		return []api.Node{{Op: api.OpNumber, N: r.Intn(3)}, {Op: api.OpNumber, N: math.MaxInt}, {Op: api.OpKey}, {Op: api.OpTime}, {Op: api.OpValue}}[r.Intn(5)]
	}
	n := api.Node{Op: []int{api.OpIf, api.OpAnd, api.OpOr, api.OpNeg + r.Intn(17)}[r.Intn(4)], L: []api.Node{random(r, depth-1)}}
	if n.Op != api.OpNeg && n.Op != api.OpNot {
		n.L = append(n.L, random(r, depth-1))
	}
	if n.Op == api.OpIf {
		n.L = append(n.L, random(r, depth-1))
	}
	return n
}

func TestTrees(t *testing.T) {
	r := rand.New(rand.NewSource(2))
	for range 5000 {
		n := random(r, r.Intn(6))
		l, e := code.Compile(n)
		if tree.Check(n) != api.OK {
			if e != api.ErrArg {
				t.Fatal(e)
			}
			continue
		}
		if e != api.OK || !ways(l) {
			t.Fatal(n, e)
		}
		for range 3 {
			k, m, v := r.Intn(3)-1, r.Intn(3)-1, int(r.Uint64())>>r.Intn(64)
			w, _ := tree.Eval(n, k, m, v)
			if x, e := code.Run(l, k, m, v); x != w || e != api.OK {
				t.Fatal(n, l, x, w)
			}
		}
		same(t, l, r)
	}
}
