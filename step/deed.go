package step

import (
	"carousel/api"
	"carousel/code"
	"carousel/frame"
)

// deed is an instruction that is being done.
type deed struct {
	spot
	m     api.Module
	takes int // how many terms go, when it goes on
	ask   api.Ask
}

// deedOf is the instruction of a stack, if that has the terms that it takes, and room for those that it leaves.
func deedOf(m api.Module, s *frame.Stack) (deed, api.Errno) {
	p, e := spotOf(m, s)
	if e != api.OK {
		return deed{}, e
	}
	takes, leaves, e := code.Effect(m, p.i)
	switch {
	case e != api.OK:
		return deed{}, e
	case takes > s.Height():
		return deed{}, api.ErrEmpty
	case leaves > takes && !hasRoom(s):
		return deed{}, api.ErrHigh
	}
	return deed{spot: p, m: m, takes: takes}, api.OK
}

// hasRoom tells whether there may be one term more: no instruction leaves more than one above those that it takes. It is tried out, for how many there are below the base only a view tells, which is all of the stack anew.
func hasRoom(s *frame.Stack) bool {
	if s.Push(api.Term{Kind: api.KindNil}) != api.OK {
		return false
	}
	s.Pop()
	return true
}

// term is the one so far below the top, of those that the instruction takes.
func (d *deed) term(n int) api.Term {
	t, _ := d.s.Peek(n)
	return t
}

// y is the last term.
func (d *deed) y() api.Term { return d.term(0) }

// x is the last one but one.
func (d *deed) x() api.Term { return d.term(1) }

// terms are those that the instruction takes, the lowest first.
func (d *deed) terms() []api.Term {
	l := make([]api.Term, d.takes)
	for k := range l {
		l[k] = d.term(d.takes - 1 - k)
	}
	return l
}

// drop takes them off.
func (d *deed) drop() {
	for range d.takes {
		d.s.Pop()
	}
}

// on goes on at a place, without the terms that the instruction takes, and with those that it leaves.
func (d *deed) on(to int, left ...api.Term) api.Errno {
	if e := d.goTo(to); e != api.OK {
		return e
	}
	d.drop()
	for _, t := range left {
		d.s.Push(t)
	}
	return api.OK
}

// behind goes on behind the instruction.
func (d *deed) behind() api.Errno { return d.on(d.at + 1) }

// leave goes on behind it, with a term more, if that was not refused.
func (d *deed) leave(t api.Term, e api.Errno) api.Errno {
	if e != api.OK {
		return e
	}
	return d.on(d.at+1, t)
}

// bindOn goes on at a place, with some locals bound.
func (d *deed) bindOn(binds []api.Bind, to int) api.Errno {
	if e := d.bind(binds, to); e != api.OK {
		return e
	}
	d.drop()
	return api.OK
}
