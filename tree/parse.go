package tree

import (
	"headgate/api"
)

// parser reads a tree of tokens; behind an error it reads no more.
type parser struct {
	l                []api.Token
	at, nodes, depth int
	err              api.Errno
}

// Parse reads the tree with which tokens begin, and how many it has; where it may not be, how many stand ahead of it.
func Parse(l []api.Token) (api.Node, int, api.Errno) {
	p := &parser{l: l}
	n := p.tree(levelOr)
	if p.err != api.OK {
		return api.Node{}, p.at, p.err
	}
	return n, p.at, api.OK
}

// tree reads a tree of a level.
func (p *parser) tree(level int) api.Node {
	switch {
	case level == levelTop:
		return p.top()
	case level == levelNot && p.word() == "not":
		return p.prefix(api.OpNot, level)
	case level == levelNeg && p.word() == "-":
		return p.prefix(api.OpNeg, level)
	}
	a := p.tree(level + 1)
	for op := p.infix(level); op != 0; op = p.infix(level) {
		p.at++
		b := p.tree(level + 1)
		a = p.node(op, 0, a, b)
		if level == levelCompare {
			break
		}
	}
	return a
}

// word tells the word or sign that comes next: nothing, if that is a number.
func (p *parser) word() string {
	if p.at >= len(p.l) || p.l[p.at].Kind == api.TokNumber {
		return ""
	}
	return p.l[p.at].S
}

// infix tells the kind that comes next between two trees of a level; 0: there is none.
func (p *parser) infix(of int) int {
	op := map[string]int{
		"or": api.OpOr, "and": api.OpAnd,
		"=": api.OpEq, "<>": api.OpNe, "<": api.OpLt, "<=": api.OpLe, ">": api.OpGt, ">=": api.OpGe,
		"+": api.OpAdd, "-": api.OpSub, "*": api.OpMul, "/": api.OpDiv, "%": api.OpMod,
	}[p.word()]
	if p.err != api.OK || op == 0 || level(op) != of {
		return 0
	}
	return op
}

// prefix reads a sign or word, and the tree behind it.
func (p *parser) prefix(op, level int) api.Node {
	return p.nested(func() api.Node {
		return p.node(op, 0, p.tree(level))
	})
}

// top reads a tree that needs no parentheses anywhere.
func (p *parser) top() api.Node {
	if p.err == api.OK && p.at < len(p.l) && p.l[p.at].Kind == api.TokNumber {
		p.at++
		return p.node(api.OpNumber, p.l[p.at-1].N)
	}
	word := p.word()
	switch word {
	case "key", "time", "value":
		p.expect(word)
		return p.node(map[string]int{"key": api.OpKey, "time": api.OpTime, "value": api.OpValue}[word], 0)
	case "min", "max":
		return p.nested(func() api.Node { return p.pair(map[string]int{"min": api.OpMin, "max": api.OpMax}[word]) })
	case "if":
		return p.nested(p.choice)
	case "(":
		return p.nested(func() api.Node {
			n := p.tree(levelOr)
			p.expect(")")
			return n
		})
	}
	p.fail(api.ErrForm)
	return api.Node{}
}

// pair reads what stands behind min and max.
func (p *parser) pair(op int) api.Node {
	p.expect("(")
	a := p.tree(levelOr)
	p.expect(",")
	b := p.tree(levelOr)
	p.expect(")")
	return p.node(op, 0, a, b)
}

// choice reads what stands behind if.
func (p *parser) choice() api.Node {
	a := p.tree(levelOr)
	p.expect("then")
	b := p.tree(levelOr)
	p.expect("else")
	c := p.tree(levelOr)
	p.expect("end")
	return p.node(api.OpIf, 0, a, b, c)
}

// nested passes over a token, and reads what is nested in it.
func (p *parser) nested(read func() api.Node) api.Node {
	if p.depth == api.MaxDepth {
		p.fail(api.ErrFull)
	}
	if p.err != api.OK {
		return api.Node{}
	}
	p.at++
	p.depth++
	n := read()
	p.depth--
	return n
}

// node makes a node, if there may be one more.
func (p *parser) node(op, n int, l ...api.Node) api.Node {
	if p.err == api.OK {
		p.nodes++
	}
	if p.nodes > api.MaxNodes {
		p.fail(api.ErrFull)
	}
	return api.Node{Op: op, N: n, L: l}
}

// expect passes over a word or sign.
func (p *parser) expect(word string) {
	if p.word() != word {
		p.fail(api.ErrForm)
	}
	if p.err == api.OK {
		p.at++
	}
}

// fail notes the first error.
func (p *parser) fail(e api.Errno) {
	if p.err == api.OK {
		p.err = e
	}
}
