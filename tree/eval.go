package tree

import (
	"math"

	"headgate/api"
)

// Apply tells the value of a kind of node, of one or two values.
func Apply(op, a, b int) int {
	switch op {
	case api.OpNeg:
		return -a
	case api.OpNot:
		return truth(a == 0)
	case api.OpMul:
		return a * b
	case api.OpDiv, api.OpMod:
		return divide(op, a, b)
	case api.OpAdd:
		return a + b
	case api.OpSub:
		return a - b
	case api.OpAnd:
		return truth(a != 0 && b != 0)
	case api.OpOr:
		return truth(a != 0 || b != 0)
	case api.OpMin:
		return min(a, b)
	case api.OpMax:
		return max(a, b)
	}
	return compare(op, a, b)
}

// divide tells a quotient, or what is left over.
func divide(op, a, b int) int {
	switch {
	case b == 0:
		return 0
	case op == api.OpDiv:
		return a / b
	}
	return a % b
}

// compare tells whether a comparison holds.
func compare(op, a, b int) int {
	switch op {
	case api.OpEq:
		return truth(a == b)
	case api.OpNe:
		return truth(a != b)
	case api.OpLt:
		return truth(a < b)
	case api.OpLe:
		return truth(a <= b)
	case api.OpGt:
		return truth(a > b)
	case api.OpGe:
		return truth(a >= b)
	}
	return 0
}

// truth tells the number of what holds or not.
func truth(holds bool) int {
	if holds {
		return 1
	}
	return 0
}

// Eval tells a tree's value for a key, a time and a value.
func Eval(n api.Node, key, time, v int) (int, api.Errno) {
	if e := Check(n); e != api.OK {
		return 0, e
	}
	return eval(n, key, time, v), api.OK
}

// eval tells the value of a tree that may be.
func eval(n api.Node, key, time, v int) int {
	switch n.Op {
	case api.OpNumber:
		return n.N
	case api.OpKey:
		return key
	case api.OpTime:
		return time
	case api.OpValue:
		return v
	case api.OpIf:
		if eval(n.L[0], key, time, v) != 0 {
			return eval(n.L[1], key, time, v)
		}
		return eval(n.L[2], key, time, v)
	}
	a, b := eval(n.L[0], key, time, v), 0
	if len(n.L) > 1 {
		b = eval(n.L[1], key, time, v)
	}
	return Apply(n.Op, a, b)
}

// Fold tells a tree of the same value, in which what is constant was reckoned.
func Fold(n api.Node) (api.Node, api.Errno) {
	if e := Check(n); e != api.OK {
		return api.Node{}, e
	}
	return fold(n), api.OK
}

// fold folds a tree that may be; nothing of it is shared.
func fold(n api.Node) api.Node {
	x := api.Node{Op: n.Op, N: n.N}
	for _, sub := range n.L {
		x.L = append(x.L, fold(sub))
	}
	if x.Op == api.OpIf {
		return choose(x)
	}
	return reckon(x)
}

// choose tells the part of a folded choice that counts, if its condition is constant.
func choose(x api.Node) api.Node {
	v, ok := constant(x.L[0])
	switch {
	case !ok:
		return x
	case v != 0:
		return x.L[1]
	}
	return x.L[2]
}

// reckon tells the constant that a node of folded trees comes to, if these are constant.
func reckon(x api.Node) api.Node {
	if _, ok := constant(x); ok || len(x.L) == 0 {
		return x
	}
	var values [2]int
	for i, sub := range x.L {
		v, ok := constant(sub)
		if !ok {
			return x
		}
		values[i] = v
	}
	v := Apply(x.Op, values[0], values[1])
	if v == math.MinInt {
		// "-" can't stand ahead of the number that it would have to.
		return x
	}
	return number(v)
}

// constant tells the value of a number, or of one with "-" ahead of it; false: it is neither.
func constant(n api.Node) (int, bool) {
	switch {
	case n.Op == api.OpNumber:
		return n.N, true
	case n.Op == api.OpNeg && n.L[0].Op == api.OpNumber:
		return -n.L[0].N, true
	}
	return 0, false
}

// number tells the tree of a number.
func number(v int) api.Node {
	if v < 0 {
		return api.Node{Op: api.OpNeg, L: []api.Node{{Op: api.OpNumber, N: -v}}}
	}
	return api.Node{Op: api.OpNumber, N: v}
}
