package frame

import (
	"carousel/api"
	"carousel/term"
)

// View is all of it.
func (s *Stack) View() api.View {
	if !s.given() {
		return api.View{}
	}
	v := api.View{Frames: make([]api.Frame, len(s.frames)), Terms: copied(s.terms)}
	for i, f := range s.frames {
		v.Frames[i] = api.Frame{Func: f.number, At: f.at, Locals: copied(f.locals), Base: f.base}
	}
	return v
}

// Load is the stack of a view.
func Load(v api.View) (*Stack, api.Errno) {
	if !mayBe(v) {
		return nil, api.ErrArg
	}
	return of(v), api.OK
}

// Copy is a stack as this one is now.
func (s *Stack) Copy() *Stack {
	if !s.given() {
		return nil
	}
	return of(s.View())
}

// of is the stack of a view that may be, in memory of its own.
func of(v api.View) *Stack {
	s := New()
	s.terms = copied(v.Terms)
	s.frames = make([]frame, len(v.Frames))
	for i, f := range v.Frames {
		s.frames[i] = frame{function: function{number: f.Func, at: f.At, locals: copied(f.Locals)}, base: f.Base}
	}
	return s
}

func mayBe(v api.View) bool {
	if len(v.Frames) > api.MaxFrames || len(v.Terms) > api.MaxStack || !termsMayBe(v.Terms) {
		return false
	}
	least := 0
	for _, f := range v.Frames {
		if !frameMayBe(f) || !isWithin(f.Base, least, len(v.Terms)) {
			return false
		}
		least = f.Base
	}
	return true
}

// frameMayBe tells whether a frame may be, whatever its base is.
func frameMayBe(f api.Frame) bool {
	return isFunc(f.Func) && isPlace(f.At) && len(f.Locals) <= api.MaxLocals && termsMayBe(f.Locals)
}

func termsMayBe(l []api.Term) bool {
	for _, t := range l {
		if term.Check(t) != api.OK {
			return false
		}
	}
	return true
}
