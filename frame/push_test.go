package frame_test

import (
	"slices"
	"testing"

	"carousel/api"
	"carousel/frame"
)

func TestFr1Push(t *testing.T) {
	for _, v := range []api.View{{}, bare(), twoCalls(), view(row(2), call(0, 0, 2))} {
		s := load(t, v)
		for _, x := range rights() {
			want(t, "Push", s.Push(x), api.OK)
			v.Terms = append(v.Terms, x)
			holds(t, s, v)
		}
	}
}

func TestFr1PushOfWhatMayNotBe(t *testing.T) {
	for _, v := range views() {
		s := load(t, v)
		for _, w := range wrongs() {
			want(t, "Push of a wrong term", s.Push(w.t), w.e)
		}
		holds(t, s, v)
	}
}

// How many there are counts, not how many stand above the base.
func TestFr1PushAtTheLimit(t *testing.T) {
	for _, frames := range [][]api.Frame{nil, {call(1, 2, 0)}, {call(1, 2, 100), call(3, 4, 255)}} {
		s := load(t, view(row(255), frames...))
		want(t, "Push of the last term that may be", s.Push(in(256)), api.OK)
		holds(t, s, view(row(256), frames...))
		want(t, "Push of one more", s.Push(in(257)), api.ErrHigh)
		for _, w := range wrongs() {
			want(t, "Push of a wrong term, and of one more", s.Push(w.t), w.e)
		}
		holds(t, s, view(row(256), frames...))
		x, e := s.Pop()
		wantTerm(t, "Pop", x, e, in(256), api.OK)
		want(t, "Push behind Pop", s.Push(in(256)), api.OK)
		holds(t, s, view(row(256), frames...))
	}
	s := frame.New()
	for n := range 256 {
		want(t, "Push", s.Push(in(n+1)), api.OK)
	}
	want(t, "Push of one more", s.Push(in(257)), api.ErrHigh)
	holds(t, s, view(row(256)))
	want(t, "Enter", s.Enter(0, 0, 0), api.OK)
	want(t, "Push above a base that is the limit", s.Push(in(257)), api.ErrHigh)
	holds(t, s, view(row(256), call(0, 0, 256)))
}

func TestFr1Pop(t *testing.T) {
	s := frame.New()
	x, e := s.Pop()
	wantNoTerm(t, "Pop of an empty stack", x, e, api.ErrEmpty)
	for _, x := range rights() {
		s.Push(x)
	}
	for n, x := range slices.Backward(rights()) {
		y, e := s.Pop()
		wantTerm(t, "Pop", y, e, x, api.OK)
		holds(t, s, view(rights()[:n]))
	}
	x, e = s.Pop()
	wantNoTerm(t, "Pop of an emptied stack", x, e, api.ErrEmpty)
	holds(t, s, api.View{})
}

func TestFr1PopAboveTheBase(t *testing.T) {
	v := twoCalls()
	s := load(t, v)
	for n := 7; n > 4; n-- {
		x, e := s.Pop()
		wantTerm(t, "Pop", x, e, in(n), api.OK)
		holds(t, s, view(row(n-1), v.Frames...))
	}
	for range 2 {
		x, e := s.Pop()
		wantNoTerm(t, "Pop with terms below the base", x, e, api.ErrEmpty)
		holds(t, s, view(row(4), v.Frames...))
	}
	want(t, "Push", s.Push(in(9)), api.OK)
	x, e := s.Pop()
	wantTerm(t, "Pop", x, e, in(9), api.OK)
}

func TestFr1Peek(t *testing.T) {
	type look struct {
		v      api.View
		height int
	}
	for _, r := range []look{{api.View{}, 0}, {bare(), 3}, {twoCalls(), 3}, {view(row(2), call(0, 0, 2)), 0}, {view(row(256)), 256}, {view(row(256), call(0, 0, 255)), 1}} {
		s := load(t, r.v)
		for _, n := range []int{-1, -2, least} {
			x, e := s.Peek(n)
			wantNoTerm(t, "Peek above the top", x, e, api.ErrArg)
		}
		for n := range r.height {
			x, e := s.Peek(n)
			wantTerm(t, "Peek", x, e, in(len(r.v.Terms)-n), api.OK)
		}
		for _, n := range []int{r.height, r.height + 1, len(r.v.Terms), 256, most} {
			x, e := s.Peek(n)
			wantNoTerm(t, "Peek below the base", x, e, api.ErrEmpty)
		}
		holds(t, s, r.v)
	}
}
