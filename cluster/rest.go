package cluster

import (
	"headgate/api"
)

// Rest lets all be well for some rounds, until all is done: how many there were.
func (x *Cluster) Rest(rounds int) (int, bool) {
	if x == nil {
		return 0, false
	}
	x.d.Fuse(-1)
	if rounds < 0 {
		return 0, false
	}
	for k := range rounds {
		if x.quiet() {
			return k, true
		}
		x.round()
		if (k+1)%Beats == 0 {
			x.tick()
		}
	}
	return rounds, x.quiet()
}

// round starts whoever is down, has all workers say what they have to say, and all packets come.
// What fails in it is tried again in the next one.
func (x *Cluster) round() {
	if x.b == nil {
		x.start(nil)
	}
	for n := 1; n < len(x.workers); n++ {
		x.person(api.StepBegin, n)
	}
	for n := 1; n < len(x.workers); n++ {
		x.person(api.StepServe, n)
	}
	for x.m.Len() > 0 {
		x.deliver(0)
	}
}

// quiet tells whether all is done.
func (x *Cluster) quiet() bool {
	if x.b == nil || len(x.b.Offsets().Pends()) > 0 {
		return false
	}
	for _, r := range x.b.Coord().Rows() {
		if r.State != api.Empty {
			return false
		}
	}
	for p, off := range x.b.Offsets().Committed() {
		if off != x.b.Part(p).End() {
			return false
		}
	}
	return true
}
