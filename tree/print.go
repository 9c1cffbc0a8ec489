package tree

import (
	"strconv"

	"headgate/api"
)

// Print tells a tree's text.
func Print(n api.Node) (string, api.Errno) {
	if e := Check(n); e != api.OK {
		return "", e
	}
	return text(n), api.OK
}

// within tells the text of a tree where one of a level has to stand.
func within(n api.Node, least int) string {
	s := text(n)
	if level(n.Op) < least {
		return "(" + s + ")"
	}
	return s
}

// text tells the text of a tree that may be.
func text(n api.Node) string {
	own := level(n.Op)
	switch n.Op {
	case api.OpNumber:
		return strconv.Itoa(n.N)
	case api.OpKey, api.OpTime, api.OpValue:
		return sign(n.Op)
	case api.OpNeg:
		return "-" + within(n.L[0], own)
	case api.OpNot:
		return "not " + within(n.L[0], own)
	case api.OpMin, api.OpMax:
		return sign(n.Op) + "(" + text(n.L[0]) + ", " + text(n.L[1]) + ")"
	case api.OpIf:
		return "if " + text(n.L[0]) + " then " + text(n.L[1]) + " else " + text(n.L[2]) + " end"
	}
	left := own
	if own == levelCompare {
		left++
	}
	return within(n.L[0], left) + " " + sign(n.Op) + " " + within(n.L[1], own+1)
}

// sign tells the word or sign of a kind that has one.
func sign(op int) string {
	// From OpKey to OpMax, with what stands ahead of its tree alone left out.
	list := [...]string{"key", "time", "value", "", "", "*", "/", "%", "+", "-", "=", "<>", "<", "<=", ">", ">=", "and", "or", "min", "max"}
	return list[op-api.OpKey]
}
