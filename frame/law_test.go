package frame_test

import (
	"reflect"
	"runtime"
	"slices"
	"testing"
	"weak"

	"carousel/api"
	"carousel/frame"
)

func TestFr5LoadOfView(t *testing.T) {
	for _, v := range views() {
		s := load(t, v)
		u := load(t, s.View())
		m := modelOf(v)
		for _, d := range deeds() {
			both(t, s, m, d)
			holds(t, s, m.view())
		}
		holds(t, u, v)
		m = modelOf(v)
		for _, d := range slices.Backward(deeds()) {
			both(t, u, m, d)
			holds(t, u, m.view())
		}
	}
}

func TestFr5PushedAndPopped(t *testing.T) {
	for _, v := range views() {
		s := load(t, v)
		room := 256 - len(v.Terms)
		for n := range room {
			want(t, "Push", s.Push(in(-n)), api.OK)
		}
		want(t, "Push", s.Push(in(1)), api.ErrHigh)
		for n := range room {
			x, e := s.Pop()
			wantTerm(t, "Pop", x, e, in(n+1-room), api.OK)
		}
		holds(t, s, v)
	}
}

// Whatever a call does in between: the stack is as it was, without the parameters, and with the term left.
func TestFr5EnterAndLeave(t *testing.T) {
	for _, v := range views() {
		height := len(v.Terms) - baseOf(v)
		for params := range min(height, 32) + 1 {
			s := load(t, v)
			if s.Depth() == 64 {
				want(t, "Enter", s.Enter(7, params, 32), api.ErrDeep)
				continue
			}
			want(t, "Enter", s.Enter(7, params, 32), api.OK)
			want(t, "Go", s.Go(99), api.OK)
			want(t, "Set", s.Set(31, in(99)), api.OK)
			terms := slices.Clone(v.Terms[:len(v.Terms)-params])
			if s.Push(in(1)) == api.OK {
				terms = append(terms, in(1))
				if s.Push(in(2)) == api.OK {
					terms[len(terms)-1] = in(2)
				}
				want(t, "Leave", s.Leave(), api.OK)
				holds(t, s, view(terms, v.Frames...))
			}
		}
	}
}

// What stands below the base has no part in any answer: two stacks that differ there alone tell the same of all but View.
func TestFr5BelowTheBase(t *testing.T) {
	for base := range 4 {
		for above := range 4 {
			below := ints(-1, -2, -3)[:base]
			s := load(t, view(row(base+above), call(1, 2, base)))
			u := load(t, view(append(slices.Clone(below), row(base + above)[base:]...), call(1, 2, base)))
			for range above {
				x, e := s.Pop()
				y, f := u.Pop()
				wantTerm(t, "Pop", x, e, y, f)
			}
			for _, x := range []*frame.Stack{s, u} {
				y, e := x.Pop()
				wantNoTerm(t, "Pop", y, e, api.ErrEmpty)
				y, e = x.Peek(0)
				wantNoTerm(t, "Peek", y, e, api.ErrEmpty)
				want(t, "Leave", x.Leave(), api.ErrEmpty)
				want(t, "Enter", x.Enter(0, 1, 1), api.ErrEmpty)
			}
			holds(t, s, view(row(base), call(1, 2, base)))
			holds(t, u, view(below, call(1, 2, base)))
		}
	}
}

// notGiven are stacks that neither New nor Load nor Copy gave.
func notGiven() map[string]*frame.Stack {
	s, _ := frame.Load(twoCalls())
	byHand, empty := *s, *frame.New()
	return map[string]*frame.Stack{"nil": nil, "zero": {}, "copied by hand": &byHand, "an empty one copied by hand": &empty}
}

func TestR1OfStacksThatWereNotGiven(t *testing.T) {
	for name, s := range notGiven() {
		for range 2 {
			x, e := s.Pop()
			wantNoTerm(t, name+": Pop", x, e, api.ErrArg)
			for _, n := range []int{-1, 0, 1, least, most} {
				x, e = s.Peek(n)
				wantNoTerm(t, name+": Peek", x, e, api.ErrArg)
				x, e = s.Local(n)
				wantNoTerm(t, name+": Local", x, e, api.ErrArg)
				want(t, name+": Go", s.Go(n), api.ErrArg)
				want(t, name+": Enter", s.Enter(n, n, n), api.ErrArg)
				want(t, name+": Set", s.Set(n, in(1)), api.ErrArg)
				want(t, name+": Set of a wrong term", s.Set(n, endless()), api.ErrArg)
			}
			want(t, name+": Push", s.Push(in(1)), api.ErrArg)
			want(t, name+": Push of a wrong term", s.Push(endless()), api.ErrArg)
			want(t, name+": Leave", s.Leave(), api.ErrArg)
			if fn, at, e := s.Top(); fn != 0 || at != 0 || e != api.ErrArg {
				t.Error(name, "Top:", fn, at, e)
			}
			if s.Height() != 0 || s.Depth() != 0 || s.Copy() != nil || !reflect.DeepEqual(s.View(), api.View{}) {
				t.Error(name, s.Height(), s.Depth(), s.Copy(), s.View())
			}
		}
	}
}

// A view with spare room behind each of its lists.
func roomy(v api.View) api.View {
	v.Frames = append(slices.Clone(v.Frames), make([]api.Frame, 5)...)[:len(v.Frames)]
	v.Terms = append(slices.Clone(v.Terms), make([]api.Term, 5)...)[:len(v.Terms)]
	for i, f := range v.Frames {
		v.Frames[i].Locals = append(slices.Clone(f.Locals), make([]api.Term, 5)...)[:len(f.Locals)]
	}
	return v
}

func TestR3LoadKeepsItsOwn(t *testing.T) {
	for _, v := range views() {
		u := roomy(v)
		s := load(t, u)
		scribbleView(u)
		holds(t, s, v)
	}
}

// What is handed in stays as it is, with what lies behind its end, whatever comes of the stack.
func TestR3LoadChangesNothing(t *testing.T) {
	for _, v := range views() {
		u := roomy(v)
		terms, frames := slices.Clone(u.Terms[:cap(u.Terms)]), slices.Clone(u.Frames[:cap(u.Frames)])
		var locals [][]api.Term
		for _, f := range u.Frames {
			locals = append(locals, slices.Clone(f.Locals[:cap(f.Locals)]))
		}
		s := load(t, u)
		for range 3 {
			for _, d := range deeds() {
				both(t, s, modelOf(s.View()), d)
			}
		}
		if !sameTerms(terms, u.Terms[:cap(u.Terms)]) || !slices.EqualFunc(frames, u.Frames[:cap(u.Frames)], sameFrame) {
			t.Error("a view was changed:", u)
		}
		for i, f := range u.Frames {
			if !sameTerms(locals[i], f.Locals[:cap(f.Locals)]) {
				t.Error("a frame's locals were changed:", f)
			}
		}
	}
}

// All lists of one view may be pieces of one list: the stack's are not.
func TestR3LoadOfListsThatShare(t *testing.T) {
	l := row(9)
	s := load(t, view(l, call(1, 1, 3, l[:4]...), call(2, 2, 5, l[:4]...)))
	want(t, "Set", s.Set(0, in(50)), api.OK)
	x, e := s.Pop()
	wantTerm(t, "Pop", x, e, in(9), api.OK)
	want(t, "Push", s.Push(in(60)), api.OK)
	holds(t, s, view(append(row(8), in(60)), call(1, 1, 3, row(4)...), call(2, 2, 5, ints(50, 2, 3, 4)...)))
	if !sameTerms(l, row(9)) {
		t.Error(l)
	}
}

func TestR3ViewIsItsOwn(t *testing.T) {
	for _, v := range views() {
		s := load(t, v)
		a, b := s.View(), s.View()
		scribbleView(a)
		holds(t, s, v)
		if !sameView(b, v) {
			t.Error("two views share memory:", b)
		}
		m := modelOf(v)
		for range 3 {
			for _, d := range deeds() {
				both(t, s, m, d)
			}
		}
		holds(t, s, m.view())
		if !sameView(b, v) {
			t.Error("a view and its stack share memory:", b)
		}
	}
}

// No two lists of one view share memory, nor the room behind them.
func TestR3ListsOfAView(t *testing.T) {
	for _, v := range views() {
		s := load(t, v)
		for i := range v.Frames {
			u := s.View()
			scribble(u.Frames[i].Locals, atom("scribbled"))
			u.Frames[i].Locals = v.Frames[i].Locals
			if !sameView(u, v) {
				t.Error("a frame's locals share memory with another list:", i)
			}
		}
		u := s.View()
		scribble(u.Terms, atom("scribbled"))
		u.Terms = v.Terms
		if !sameView(u, v) {
			t.Error("the terms share memory with another list")
		}
	}
}

// Locals that were parameters are no piece of the terms.
func TestR3LocalsAndTerms(t *testing.T) {
	s := load(t, view(row(6)))
	want(t, "Enter", s.Enter(1, 3, 4), api.OK)
	for n := range 3 {
		want(t, "Push", s.Push(in(40+n)), api.OK)
	}
	want(t, "Set", s.Set(2, in(50)), api.OK)
	holds(t, s, view(append(row(3), ints(40, 41, 42)...), call(1, 0, 3, in(4), in(5), in(50), null())))
}

func TestR4Copy(t *testing.T) {
	for _, v := range views() {
		for k := range deeds() {
			s := load(t, v)
			u := s.Copy()
			holds(t, u, v)
			m, n := modelOf(v), modelOf(v)
			for i := range deeds() {
				both(t, s, m, deeds()[i])
				both(t, u, n, deeds()[(i*7+k)%len(deeds())])
				holds(t, s, m.view())
				holds(t, u, n.view())
			}
		}
	}
}

func TestR4CopyOfACopy(t *testing.T) {
	s := load(t, twoCalls())
	u := s.Copy().Copy()
	want(t, "Set", s.Set(0, in(77)), api.OK)
	s.Pop()
	holds(t, u, twoCalls())
	holds(t, frame.New().Copy(), api.View{})
}

func TestR4StacksKnowNothingOfOneAnother(t *testing.T) {
	a, b := frame.New(), frame.New()
	if a == nil || b == nil || a == b {
		t.Fatal("New:", a, b)
	}
	m, n := &model{}, &model{}
	var d draw = 3
	for i := range 2000 {
		both(t, a, m, d.deed(i/30))
		both(t, b, n, d.deed(i/50))
		holds(t, a, m.view())
		holds(t, b, n.view())
	}
}

// What has gone is not kept: nothing asks for it any more.
func TestWhatHasGoneIsNotKept(t *testing.T) {
	outs := map[string]func(s *frame.Stack){
		"Pop": func(s *frame.Stack) { s.Pop() },
		"Leave": func(s *frame.Stack) {
			s.Enter(0, 0, 0)
			s.Push(in(1))
			s.Push(in(2))
			s.Leave()
			s.Pop()
			s.Pop()
		},
		"Enter and Leave": func(s *frame.Stack) { s.Enter(0, 1, 1); s.Push(in(1)); s.Leave() },
		"a local":         func(s *frame.Stack) { s.Enter(0, 1, 1); s.Set(0, in(1)) },
		"terms of a call": func(s *frame.Stack) { x, _ := s.Pop(); s.Enter(0, 0, 0); s.Push(x); s.Push(in(1)); s.Leave() },
		"the term left": func(s *frame.Stack) {
			x, _ := s.Pop()
			s.Enter(0, 0, 0)
			s.Push(in(1))
			s.Push(x)
			s.Leave()
			s.Pop()
		},
		"Enter and no use": func(s *frame.Stack) { s.Enter(0, 1, 2); s.Set(0, null()); s.Push(in(1)); s.Leave(); s.Enter(0, 1, 1) },
	}
	for name, out := range outs {
		s := frame.New()
		l := make([]api.Term, 1)
		l[0] = in(1)
		seen := weak.Make(&l[0])
		s.Push(in(0))
		s.Push(list(l...))
		l = nil
		out(s)
		runtime.GC()
		if seen.Value() != nil {
			t.Error(name, "keeps what has gone")
		}
		runtime.KeepAlive(s)
	}
}
