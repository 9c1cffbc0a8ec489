package worker

import (
	"headgate/api"
	"headgate/change"
	"headgate/engine"
)

// Hear takes a reply: one that is not awaited is passed over.
func (w *Worker) Hear(r api.Reply) {
	if w == nil || w.id > api.MaxNum || r.ID != w.id {
		return
	}
	w.id++
	if r.Err != api.OK {
		w.phase = w.failed(r.Err)
		return
	}
	w.phase = w.answered(r)
}

// failed tells the phase behind an error.
func (w *Worker) failed(e api.Errno) int {
	switch w.phase {
	case api.PhaseSync:
		if e == api.ErrMember {
			return api.PhaseJoin
		}
	case api.PhaseOffset, api.PhaseRestore, api.PhasePoll:
		return api.PhaseBeat
	case api.PhaseAdd, api.PhasePut, api.PhaseCommit:
		return api.PhaseInit
	case api.PhaseEnd:
		if e != api.ErrFull {
			return api.PhaseInit
		}
	case api.PhaseBeat:
		if e == api.ErrMember {
			return api.PhaseJoin
		}
		return api.PhaseSync
	}
	return w.phase
}

// answered takes a reply without an error, and tells the next phase.
func (w *Worker) answered(r api.Reply) int {
	switch w.phase {
	case api.PhaseJoin:
		w.member, w.gen = r.A, r.B
		return api.PhaseInit
	case api.PhaseInit:
		w.epoch = r.A
		return api.PhaseSync
	case api.PhaseSync:
		return w.sync(r)
	case api.PhaseOffset:
		return w.offset(r.A)
	case api.PhaseRestore:
		return w.restore(r)
	case api.PhasePoll:
		return w.poll(r.L)
	case api.PhaseAdd:
		return w.write()
	case api.PhasePut:
		x := w.writes[0]
		w.written[x.part] += len(x.l)
		w.writes = w.writes[1:]
		return w.write()
	case api.PhaseCommit:
		return api.PhaseEnd
	case api.PhaseEnd:
		w.epoch = r.A
		w.known[w.part()] = w.next
		return api.PhaseBeat
	}
	return w.beat()
}

// sync takes the generation and the partitions.
func (w *Worker) sync(r api.Reply) int {
	w.gen, w.parts, w.turn = r.A, nil, 0
	for _, p := range r.Nums {
		if p >= 0 && p < w.topic {
			w.parts = append(w.parts, p)
		}
	}
	if len(w.parts) == 0 {
		return api.PhaseBeat
	}
	return api.PhaseOffset
}

// offset takes the committed offset: a state that does not hold behind as many records is of no use.
func (w *Worker) offset(n int) int {
	w.committed = n
	if k, ok := w.known[w.part()]; ok && k.n == n {
		return api.PhasePoll
	}
	delete(w.known, w.part())
	w.read, w.changes = 0, nil
	return api.PhaseRestore
}

// restore takes changes, and puts the state together when there are no more.
func (w *Worker) restore(r api.Reply) int {
	for _, x := range r.L {
		w.changes = append(w.changes, x.R)
	}
	if r.A > w.read && r.A < r.B {
		w.read = r.A
		return api.PhaseRestore
	}
	s, e := change.Restore(w.g, w.changes...)
	w.changes = nil
	if e != api.OK {
		return api.PhaseBeat
	}
	w.known[w.part()] = known{s, w.committed}
	return api.PhasePoll
}

// poll takes records, and tells what is to be written of them.
func (w *Worker) poll(l []api.Got) int {
	taken := w.take(l)
	old := w.known[w.part()].state
	now, over, e := engine.Run(w.g, old, w.pipe.All(taken...)...)
	if len(taken) == 0 || e != api.OK {
		return api.PhaseBeat
	}
	var outs []api.Record
	for _, c := range over {
		r, e := change.Out(c)
		if e != api.OK {
			return api.PhaseBeat
		}
		outs = append(outs, r)
	}
	w.next = known{now, w.committed + len(taken)}
	w.writes = nil
	clear(w.written)
	w.split(w.topic+w.part(), outs)
	w.split(2*w.topic+w.part(), change.Diff(old, now))
	return api.PhaseAdd
}

// take tells the records that stand one behind the other from the committed offset on, as many as may be taken.
func (w *Worker) take(l []api.Got) []api.Record {
	var taken []api.Record
	for _, x := range l {
		// Offsets are compared by their distance: a sum might go beyond the integers.
		if len(taken) == w.most || x.Off < w.committed || x.Off-w.committed != len(taken) {
			break
		}
		taken = append(taken, x.R)
	}
	return taken
}

// split has records be written to a partition.
func (w *Worker) split(part int, l []api.Record) {
	for some := range batches(l) {
		w.writes = append(w.writes, write{part, some})
	}
}

// batches yields records, as many at a time as a batch may have.
func batches(l []api.Record) func(yield func([]api.Record) bool) {
	return func(yield func([]api.Record) bool) {
		for rest := l; len(rest) > 0; {
			n := min(len(rest), api.MaxRecords)
			if !yield(rest[:n]) {
				return
			}
			rest = rest[n:]
		}
	}
}

// write goes on to the next batch, or behind the last one.
func (w *Worker) write() int {
	if len(w.writes) == 0 {
		return api.PhaseCommit
	}
	return api.PhasePut
}

// beat has it be the turn of the next partition.
func (w *Worker) beat() int {
	if len(w.parts) == 0 {
		return api.PhaseSync
	}
	w.turn = (w.turn + 1) % len(w.parts)
	return api.PhaseOffset
}
