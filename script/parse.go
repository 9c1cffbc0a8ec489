package script

import (
	"headgate/alert"
	"headgate/api"
	"headgate/lex"
	"headgate/pipe"
	"headgate/varint"
)

// parser reads a script of tokens; behind an error it reads no more.
type parser struct {
	l   []api.Token
	at  int
	err api.Errno
}

// Parse reads a script's text; where it may not be, its line and column.
func Parse(s string) (api.Script, int, int, api.Errno) {
	l, at, e := lex.Cut(s)
	if e != api.OK {
		line, column := lex.Place(s, at)
		return api.Script{}, line, column, e
	}
	p := &parser{l: l}
	x := p.script()
	if p.err != api.OK {
		at = len(s)
		if p.at < len(l) {
			at = l[p.at].At
		}
		line, column := lex.Place(s, at)
		return api.Script{}, line, column, p.err
	}
	if e = Check(x); e != api.OK {
		return api.Script{}, 0, 0, e
	}
	return x, 0, 0, api.OK
}

// fail notes the first error.
func (p *parser) fail(e api.Errno) {
	if p.err == api.OK {
		p.err = e
	}
}

// is tells whether a word or sign comes next.
func (p *parser) is(s string) bool {
	return p.err == api.OK && p.at < len(p.l) && p.l[p.at].Kind != api.TokNumber && p.l[p.at].S == s
}

// passes passes over a word or sign, if it comes next, and tells whether it did.
func (p *parser) passes(s string) bool {
	if !p.is(s) {
		return false
	}
	p.at++
	return true
}

// expect passes over a word or sign that has to come next.
func (p *parser) expect(s string) {
	if !p.passes(s) {
		p.fail(api.ErrForm)
	}
}

// number passes over a number.
func (p *parser) number() int {
	if p.err != api.OK || p.at == len(p.l) || p.l[p.at].Kind != api.TokNumber {
		p.fail(api.ErrForm)
		return 0
	}
	p.at++
	return p.l[p.at-1].N
}

// list reads elements between commas.
func (p *parser) list(element func()) {
	element()
	for p.passes(",") {
		element()
	}
}

// script reads a script.
func (p *parser) script() api.Script {
	var s api.Script
	p.config(&s.C)
	p.expect(";")
	for p.is("alert") {
		r, n, e := alert.Read(p.l[p.at:])
		if e != api.OK {
			p.fail(e)
			break
		}
		p.at += n
		s.Rules = append(s.Rules, r)
		p.expect(";")
	}
	for p.err == api.OK && p.at < len(p.l) {
		s.L = append(s.L, p.order())
		p.expect(";")
	}
	return s
}

// config reads a config.
func (p *parser) config(c *api.Config) {
	p.expect("cluster")
	for _, x := range settings(c) {
		p.expect(x.word)
		*x.n = p.number()
	}
	c.Sticky = p.passes("sticky")
	if !p.passes("query") {
		return
	}
	q, n, e := pipe.Read(p.l[p.at:])
	p.at += n
	if e != api.OK {
		p.fail(e)
	}
	c.Q = q
}

// order reads an order.
func (p *parser) order() api.Order {
	if p.passes("rest") {
		return api.Order{Rest: true, Rounds: p.number()}
	}
	s := api.Step{Kind: p.kind()}
	switch s.Kind {
	case 0:
		p.fail(api.ErrForm)
	case api.StepInput:
		s.N = p.number()
		p.expect(":")
		p.list(func() { s.L = append(s.L, p.record()) })
	case api.StepTick:
	case api.StepFuse:
		if p.passes("off") {
			s.N = -1
		} else {
			s.N = p.number()
		}
	case api.StepCrash, api.StepStart:
		if p.passes("keep") {
			p.list(func() { s.Keep = append(s.Keep, p.number()) })
		}
	default:
		s.N = p.number()
	}
	return api.Order{S: s}
}

// kind passes over the word of a step, and tells its kind; 0: there is none.
func (p *parser) kind() int {
	for i, word := range words() {
		if p.passes(word) {
			return api.StepInput + i
		}
	}
	return 0
}

// record reads a record.
func (p *parser) record() api.Record {
	var r api.Record
	r.Key = p.number()
	p.expect("at")
	r.Time = p.number()
	p.expect("value")
	sign := 1
	if p.passes("-") {
		sign = -1
	}
	r.Text = varint.Put(sign * p.number())
	return r
}
