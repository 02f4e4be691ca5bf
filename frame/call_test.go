package frame_test

import (
	"slices"
	"testing"

	"carousel/api"
	"carousel/frame"
)

func TestFr2Example(t *testing.T) {
	s := frame.New()
	for n := range 3 {
		want(t, "Push", s.Push(in(n+1)), api.OK)
	}
	want(t, "Enter", s.Enter(0, 2, 3), api.OK)
	holds(t, s, view(row(1), call(0, 0, 1, in(2), in(3), null())))
	x, e := s.Pop()
	wantNoTerm(t, "Pop", x, e, api.ErrEmpty)
	want(t, "Push", s.Push(in(9)), api.OK)
	want(t, "Leave", s.Leave(), api.OK)
	holds(t, s, view(ints(1, 9)))
}

// Every number of parameters with every number of locals, without a frame and with some.
func TestFr2Enter(t *testing.T) {
	below := []api.View{{}, view(row(2)), view(row(3), call(5, 6, 1, in(7)), call(8, 9, 3, in(10)))}
	for _, v := range below {
		for locals := range 33 {
			for params := range locals + 1 {
				u := view(append(slices.Clone(v.Terms), ints(-1, -2)...), v.Frames...)
				base := len(u.Terms)
				var args []api.Term
				for n := range params {
					args = append(args, in(100+n))
				}
				u.Terms = append(u.Terms, args...)
				s := load(t, u)
				want(t, "Enter", s.Enter(locals, params, locals), api.OK)
				f := call(locals, 0, base, append(args, nulls(locals-params)...)...)
				holds(t, s, view(u.Terms[:base], append(slices.Clone(u.Frames), f)...))
			}
		}
	}
}

type entry struct {
	fn, params, locals int
	e                  api.Errno
}

// entries are calls, of a stack with three terms above the base.
func entries() []entry {
	l := []entry{
		{0, 0, 0, api.OK}, {1, 0, 0, api.OK}, {62, 0, 0, api.OK}, {63, 0, 0, api.OK}, {0, 0, 1, api.OK}, {0, 0, 31, api.OK}, {0, 0, 32, api.OK}, {0, 3, 3, api.OK}, {63, 3, 32, api.OK}, {0, 2, 3, api.OK},
		{0, 4, 4, api.ErrEmpty}, {0, 4, 32, api.ErrEmpty}, {63, 32, 32, api.ErrEmpty},
		{0, 4, 3, api.ErrArg}, {0, 1, 0, api.ErrArg}, {0, 3, 2, api.ErrArg}, {0, 33, 32, api.ErrArg}, {0, 33, 33, api.ErrArg}, {0, most, 32, api.ErrArg}, {0, most, most, api.ErrArg},
		{-1, 4, 4, api.ErrArg}, {64, 4, 4, api.ErrArg}, {0, 4, 33, api.ErrArg}, {0, -1, -1, api.ErrArg}, {0, 0, -1, api.ErrArg}, {-1, -1, -1, api.ErrArg}, {64, 33, 33, api.ErrArg}, {0, least, least, api.ErrArg},
	}
	for _, fn := range []int{-1, -2, 64, 65, 256, least, most} {
		l = append(l, entry{fn, 0, 0, api.ErrArg}, entry{fn, 3, 3, api.ErrArg})
	}
	for _, locals := range []int{-1, -2, 33, 34, 256, least, most} {
		l = append(l, entry{0, 0, locals, api.ErrArg}, entry{0, 3, locals, api.ErrArg})
	}
	for _, params := range []int{-1, -2, least} {
		l = append(l, entry{0, params, 0, api.ErrArg}, entry{0, params, 3, api.ErrArg}, entry{0, params, 32, api.ErrArg})
	}
	return l
}

func TestFr2EnterRefused(t *testing.T) {
	for _, v := range []api.View{bare(), twoCalls()} {
		for _, r := range entries() {
			s := load(t, v)
			want(t, "Enter", s.Enter(r.fn, r.params, r.locals), r.e)
			if r.e != api.OK {
				holds(t, s, v)
			} else if s.Depth() != len(v.Frames)+1 || s.Height() != 0 {
				t.Error("behind Enter:", s.View())
			}
		}
	}
}

// Of two errors the one that is named first is told: ErrArg, ErrEmpty, ErrDeep.
func TestFr2EnterAtTheLimit(t *testing.T) {
	frames := slices.Repeat([]api.Frame{call(1, 2, 4, in(5))}, 64)
	for _, r := range entries() {
		v := view(row(7), frames...)
		s := load(t, v)
		e := r.e
		if e == api.OK {
			e = api.ErrDeep
		}
		want(t, "Enter of one more", s.Enter(r.fn, r.params, r.locals), e)
		holds(t, s, v)
		s = load(t, view(row(7), frames[:63]...))
		want(t, "Enter of the last one", s.Enter(r.fn, r.params, r.locals), r.e)
	}
	s := load(t, view(row(7), frames[:63]...))
	want(t, "Enter of the last one", s.Enter(9, 1, 2), api.OK)
	last := call(9, 0, 6, in(7), null())
	holds(t, s, view(row(6), append(slices.Clone(frames[:63]), last)...))
	want(t, "Enter of one more", s.Enter(9, 0, 2), api.ErrDeep)
	want(t, "Push", s.Push(in(8)), api.OK)
	want(t, "Leave", s.Leave(), api.OK)
	want(t, "Enter behind Leave", s.Enter(9, 0, 0), api.OK)
}

// Of the calls one behind the other each second one takes the term that was pushed ahead of it.
func TestFr2EnterFromTheFirst(t *testing.T) {
	s := frame.New()
	var frames []api.Frame
	var terms []api.Term
	for n := range 64 {
		locals := nulls(n%32 + 1)
		want(t, "Push", s.Push(in(n)), api.OK)
		want(t, "Enter", s.Enter(n, n%2, len(locals)), api.OK)
		if n%2 == 1 {
			locals[0] = in(n)
		} else {
			terms = append(terms, in(n))
		}
		frames = append(frames, call(n, 0, len(terms), locals...))
		holds(t, s, view(terms, frames...))
	}
	want(t, "Enter", s.Enter(0, 0, 0), api.ErrDeep)
	holds(t, s, view(terms, frames...))
}

// Only what stands above the base counts, however many there are below it.
func TestFr2EnterAboveTheBase(t *testing.T) {
	for height := range 5 {
		for params := range 6 {
			v := view(row(10+height), call(1, 2, 10))
			s := load(t, v)
			if params <= height {
				want(t, "Enter", s.Enter(7, params, 5), api.OK)
				n := 10 + height - params
				locals := slices.Concat(row(10 + height)[n:], nulls(5-params))
				holds(t, s, view(row(n), v.Frames[0], call(7, 0, n, locals...)))
			} else {
				want(t, "Enter with too few terms", s.Enter(7, params, 5), api.ErrEmpty)
				holds(t, s, v)
			}
		}
	}
}

func TestFr2Leave(t *testing.T) {
	for _, v := range []api.View{{}, bare(), view(row(256))} {
		s := load(t, v)
		want(t, "Leave without a frame", s.Leave(), api.ErrEmpty)
		holds(t, s, v)
	}
	for above := range 6 {
		v := view(row(4+above), call(3, 5, 2, in(20), in(21)), call(4, 6, 4, in(30)))
		s := load(t, v)
		if above == 0 {
			want(t, "Leave with no term above the base", s.Leave(), api.ErrEmpty)
			holds(t, s, v)
			continue
		}
		want(t, "Leave", s.Leave(), api.OK)
		terms := append(row(4), in(4+above))
		holds(t, s, view(terms, v.Frames[0]))
		want(t, "Leave", s.Leave(), api.OK)
		terms = append(row(2), in(4+above))
		holds(t, s, view(terms))
		want(t, "Leave without a frame", s.Leave(), api.ErrEmpty)
		holds(t, s, view(terms))
	}
}

func TestFr2LeaveAtTheLimits(t *testing.T) {
	s := load(t, view(row(256), call(1, 2, 0)))
	want(t, "Leave", s.Leave(), api.OK)
	holds(t, s, view(ints(256)))
	s = load(t, view(row(256), call(1, 2, 255)))
	want(t, "Leave", s.Leave(), api.OK)
	holds(t, s, view(row(256)))
	v := view(row(256), call(1, 2, 3), call(1, 2, 256))
	s = load(t, v)
	want(t, "Leave", s.Leave(), api.ErrEmpty)
	holds(t, s, v)
	frames := slices.Repeat([]api.Frame{call(1, 2, 1)}, 64)
	s = load(t, view(row(9), frames...))
	for n := range 64 {
		want(t, "Leave", s.Leave(), api.OK)
		holds(t, s, view(ints(1, 9), frames[:63-n]...))
	}
	want(t, "Leave", s.Leave(), api.ErrEmpty)
	holds(t, s, view(ints(1, 9)))
}
