package frame

import (
	"carousel/api"
	"carousel/term"
)

// function is what a frame keeps of its function.
type function struct {
	number int
	at     int // the next instruction
	locals []api.Term
}

// frame is a call that goes on.
type frame struct {
	function
	base int // how many terms there were when it began
}

// Enter begins a call: its parameters are taken off the stack.
func (s *Stack) Enter(fn, params, locals int) api.Errno {
	switch {
	case !s.given() || !isFunc(fn) || !isWithin(locals, 0, api.MaxLocals) || !isWithin(params, 0, locals):
		return api.ErrArg
	case params > s.Height():
		return api.ErrEmpty
	case len(s.frames) == api.MaxFrames:
		return api.ErrDeep
	}
	f := function{number: fn, locals: s.firstLocals(params, locals)}
	s.drop(params)
	s.frames = append(s.frames, frame{function: f, base: len(s.terms)})
	return api.OK
}

// firstLocals are those with which a call begins: its parameters, which are the last terms, and nil for the others.
func (s *Stack) firstLocals(params, locals int) []api.Term {
	l := make([]api.Term, locals)
	copy(l, s.terms[len(s.terms)-params:])
	for i := params; i < locals; i++ {
		l[i].Kind = api.KindNil
	}
	return l
}

// Leave ends it: what stands above its base goes, but the top.
func (s *Stack) Leave() api.Errno {
	f, e := s.last()
	if e != api.OK {
		return e
	}
	top, e := s.Peek(0)
	if e != api.OK {
		return e
	}
	s.terms[f.base] = top
	s.drop(s.Height() - 1)
	*f = frame{} // what it kept is not to be kept behind it
	s.frames = s.frames[:len(s.frames)-1]
	return api.OK
}

// Local is a local of the last call.
func (s *Stack) Local(i int) (api.Term, api.Errno) {
	f, e := s.last()
	if e != api.OK {
		return api.Term{}, e
	}
	if !f.hasLocal(i) {
		return api.Term{}, api.ErrNone
	}
	return f.locals[i], api.OK
}

// Set sets one.
func (s *Stack) Set(i int, t api.Term) api.Errno {
	f, e := s.last()
	if e != api.OK {
		return e
	}
	if e := term.Check(t); e != api.OK {
		return e
	}
	if !f.hasLocal(i) {
		return api.ErrNone
	}
	f.locals[i] = t
	return api.OK
}

// Top is the last call's function, and its next instruction.
func (s *Stack) Top() (fn, at int, e api.Errno) {
	f, e := s.last()
	if e != api.OK {
		return 0, 0, e
	}
	return f.number, f.at, api.OK
}

// Go sets the next instruction.
func (s *Stack) Go(at int) api.Errno {
	if !isPlace(at) {
		return api.ErrArg
	}
	f, e := s.last()
	if e != api.OK {
		return e
	}
	f.at = at
	return api.OK
}

// Depth is how many calls go on.
func (s *Stack) Depth() int {
	if !s.given() {
		return 0
	}
	return len(s.frames)
}

// last is the frame of the call that goes on now.
func (s *Stack) last() (*frame, api.Errno) {
	if !s.given() {
		return nil, api.ErrArg
	}
	if len(s.frames) == 0 {
		return nil, api.ErrEmpty
	}
	return &s.frames[len(s.frames)-1], api.OK
}

// base is how many terms stand below those that may be taken.
func (s *Stack) base() int {
	f, e := s.last()
	if e != api.OK {
		return 0
	}
	return f.base
}

func (f function) hasLocal(i int) bool { return isWithin(i, 0, len(f.locals)-1) }

func isFunc(fn int) bool { return isWithin(fn, 0, api.MaxFuncs-1) }

func isPlace(at int) bool { return isWithin(at, 0, api.MaxCode-1) }
