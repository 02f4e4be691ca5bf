package frame_test

import (
	"slices"
	"testing"

	"carousel/api"
	"carousel/frame"
)

func TestFr3WithoutAFrame(t *testing.T) {
	for _, v := range []api.View{{}, bare(), view(row(256))} {
		s := load(t, v)
		for _, i := range []int{-1, 0, 1, 31, 32, least, most} {
			x, e := s.Local(i)
			wantNoTerm(t, "Local", x, e, api.ErrEmpty)
			want(t, "Set", s.Set(i, in(1)), api.ErrEmpty)
			want(t, "Set of a wrong term", s.Set(i, api.Term{}), api.ErrEmpty)
			want(t, "Set of an endless term", s.Set(i, endless()), api.ErrEmpty)
		}
		if fn, at, e := s.Top(); fn != 0 || at != 0 || e != api.ErrEmpty {
			t.Error("Top:", fn, at, e)
		}
		for _, at := range []int{0, 1, 1023} {
			want(t, "Go", s.Go(at), api.ErrEmpty)
		}
		for _, at := range []int{-1, 1024, least, most} {
			want(t, "Go to no place", s.Go(at), api.ErrArg)
		}
		if s.Depth() != 0 || s.Height() != len(v.Terms) {
			t.Error("Depth, Height:", s.Depth(), s.Height())
		}
		holds(t, s, v)
	}
}

func TestFr3Local(t *testing.T) {
	for n := range 33 {
		var locals []api.Term
		for i := range n {
			locals = append(locals, in(1000+i))
		}
		v := view(row(3), call(1, 1, 0, row(32)...), call(2, 2, 1, locals...))
		s := load(t, v)
		for i := range n {
			x, e := s.Local(i)
			wantTerm(t, "Local", x, e, in(1000+i), api.OK)
		}
		for _, i := range []int{-1, -2, n, n + 1, 32, 256, least, most} {
			x, e := s.Local(i)
			wantNoTerm(t, "Local of none", x, e, api.ErrNone)
		}
		holds(t, s, v)
	}
}

func TestFr3Set(t *testing.T) {
	for n := range 33 {
		v := view(row(3), call(1, 1, 0, row(32)...), call(2, 2, 1, row(n)...))
		s := load(t, v)
		for i := range n {
			for _, x := range append(rights(), in(-i)) {
				want(t, "Set", s.Set(i, x), api.OK)
				v.Frames[1].Locals[i] = x
			}
			holds(t, s, v)
		}
		for _, i := range []int{-1, -2, n, n + 1, 32, 256, least, most} {
			want(t, "Set of none", s.Set(i, in(7)), api.ErrNone)
			for _, w := range wrongs() {
				want(t, "Set of none, of a wrong term", s.Set(i, w.t), w.e)
			}
		}
		for _, w := range wrongs() {
			want(t, "Set of a wrong term", s.Set(n-1, w.t), w.e)
		}
		holds(t, s, v)
	}
}

// The last frame's locals are meant, and those of the one ahead are as they were when it ends.
func TestFr3OfTheLastFrame(t *testing.T) {
	s := frame.New()
	want(t, "Enter", s.Enter(1, 0, 2), api.OK)
	want(t, "Set", s.Set(1, in(5)), api.OK)
	want(t, "Go", s.Go(11), api.OK)
	want(t, "Enter", s.Enter(2, 0, 3), api.OK)
	want(t, "Set", s.Set(1, in(6)), api.OK)
	want(t, "Go", s.Go(12), api.OK)
	holds(t, s, view(nil, call(1, 11, 0, null(), in(5)), call(2, 12, 0, null(), in(6), null())))
	want(t, "Push", s.Push(in(7)), api.OK)
	want(t, "Leave", s.Leave(), api.OK)
	holds(t, s, view(ints(7), call(1, 11, 0, null(), in(5))))
	want(t, "Enter", s.Enter(3, 1, 3), api.OK)
	holds(t, s, view(nil, call(1, 11, 0, null(), in(5)), call(3, 0, 0, in(7), null(), null())))
}

func TestFr3TopAndGo(t *testing.T) {
	for _, fn := range []int{0, 1, 62, 63} {
		s := load(t, view(row(2), call(9, 9, 1)))
		want(t, "Enter", s.Enter(fn, 0, 0), api.OK)
		frames := func(at int) []api.Frame { return []api.Frame{call(9, 9, 1), call(fn, at, 2)} }
		holds(t, s, view(row(2), frames(0)...))
		for _, at := range []int{1023, 0, 1, 1022, 512} {
			want(t, "Go", s.Go(at), api.OK)
			holds(t, s, view(row(2), frames(at)...))
			for _, no := range []int{-1, -2, 1024, 1025, least, most} {
				want(t, "Go to no place", s.Go(no), api.ErrArg)
			}
			holds(t, s, view(row(2), frames(at)...))
		}
	}
}

func TestFr3HeightAndDepth(t *testing.T) {
	s := frame.New()
	look := func(height, depth int) {
		t.Helper()
		if s.Height() != height || s.Depth() != depth {
			t.Errorf("Height %d, Depth %d, not %d, %d", s.Height(), s.Depth(), height, depth)
		}
	}
	look(0, 0)
	for n := range 4 {
		s.Push(in(n))
		look(n+1, 0)
	}
	s.Enter(0, 1, 1)
	look(0, 1)
	s.Push(in(4))
	s.Push(in(5))
	look(2, 1)
	s.Enter(0, 0, 0)
	look(0, 2)
	s.Push(in(6))
	look(1, 2)
	s.Leave()
	look(3, 1)
	s.Pop()
	look(2, 1)
	s.Leave()
	look(4, 0)
	for _, v := range views() {
		s = load(t, v)
		look(len(v.Terms)-baseOf(v), len(v.Frames))
	}
}

func baseOf(v api.View) int {
	base := 0
	for f := range slices.Values(v.Frames) {
		base = f.Base
	}
	return base
}
