package code

import (
	"slices"

	"headgate/api"
)

// mostRounds is how many changes are made at most.
const mostRounds = 4096

// Better tells code of the same value, that is not longer.
func Better(l []api.Instr) ([]api.Instr, api.Errno) {
	if e := Check(l); e != api.OK {
		return nil, e
	}
	l = slices.Clone(l)
	for range mostRounds {
		i, n := needless(l)
		switch {
		case n > 0:
			l = remove(l, i, n)
		case !shorten(l):
			return l, api.OK
		}
	}
	return l, api.OK
}

// needless tells the place of the first instruction that may go, and how many may from there on; 0: there is none.
func needless(l []api.Instr) (int, int) {
	landings := map[int]int{}
	for _, x := range l {
		if jumps(x) {
			landings[x.N]++
		}
	}
	for i, x := range l {
		switch {
		case x.Op == api.InstrJump && x.N == i+1:
			return i, 1
		case x.Op == api.InstrBool && landings[i] == 0 && i > 0 && truth(l[i-1]):
			return i, 1
		case x.Op == api.OpNumber && x.N != 0 && i+1 < len(l) && l[i+1].Op == api.InstrZero && landings[i+1] == 0:
			return i, 2
		}
	}
	return 0, 0
}

// truth tells whether an instruction leaves nothing but 0 or 1.
func truth(x api.Instr) bool {
	return x.Op == api.OpNot || x.Op >= api.OpEq && x.Op <= api.OpGe
}

// remove takes out instructions: what jumped there, jumps to what is behind them.
func remove(l []api.Instr, at, n int) []api.Instr {
	l = slices.Delete(l, at, at+n)
	for i := range l {
		if jumps(l[i]) && l[i].N > at {
			l[i].N = max(at, l[i].N-n)
		}
	}
	return l
}

// shorten has the first jump to a jump lead where that one leads; false: there is none.
func shorten(l []api.Instr) bool {
	for i, x := range l {
		if jumps(x) && x.N < len(l) && l[x.N].Op == api.InstrJump {
			l[i].N = l[x.N].N
			return true
		}
	}
	return false
}
