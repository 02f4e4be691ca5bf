package step

import (
	"carousel/api"
	"carousel/frame"
	"carousel/term"
)

// spot is where a stack stands: at an instruction of its last frame's function.
type spot struct {
	s  *frame.Stack
	f  api.Func
	at int
	i  api.Instr
}

func spotOf(m api.Module, s *frame.Stack) (spot, api.Errno) {
	fn, at, e := s.Top()
	if e != api.OK {
		return spot{}, e
	}
	if fn >= len(m.Funcs) || at >= len(m.Funcs[fn].Code) {
		return spot{}, api.ErrNone
	}
	f := m.Funcs[fn]
	return spot{s: s, f: f, at: at, i: f.Code[at]}, api.OK
}

// goTo makes a place the next instruction.
func (p spot) goTo(to int) api.Errno {
	if !isWithin(to, 0, len(p.f.Code)-1) {
		return api.ErrNone
	}
	return p.s.Go(to)
}

// bind makes a place the next instruction, with some locals bound. All are looked at ahead: a call that is refused must not have bound the first ones.
func (p spot) bind(binds []api.Bind, to int) api.Errno {
	for _, b := range binds {
		if _, e := p.s.Local(b.Local); e != api.OK {
			return e
		}
		if e := term.Check(b.Term); e != api.OK {
			return e
		}
	}
	if e := p.goTo(to); e != api.OK {
		return e
	}
	for _, b := range binds {
		p.s.Set(b.Local, b.Term)
	}
	return api.OK
}
