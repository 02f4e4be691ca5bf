package frame_test

import (
	"math"
	"reflect"
	"slices"
	"strings"
	"testing"

	"carousel/api"
	"carousel/frame"
)

const (
	least = -1 << 63
	most  = 1<<63 - 1
)

func null() api.Term { return api.Term{Kind: api.KindNil} }

func in(n int) api.Term { return api.Term{Kind: api.KindInt, N: n} }

func num(re, im float64) api.Term { return api.Term{Kind: api.KindComplex, C: complex(re, im)} }

func atom(s string) api.Term { return api.Term{Kind: api.KindAtom, S: s} }

func tuple(l ...api.Term) api.Term { return api.Term{Kind: api.KindTuple, L: l} }

func list(l ...api.Term) api.Term { return api.Term{Kind: api.KindList, L: l} }

// ints are terms by their numbers.
func ints(l ...int) []api.Term {
	var ts []api.Term
	for _, n := range l {
		ts = append(ts, in(n))
	}
	return ts
}

// row are the terms 1 to n.
func row(n int) []api.Term {
	var ts []api.Term
	for k := range n {
		ts = append(ts, in(k+1))
	}
	return ts
}

// nulls are n terms nil.
func nulls(n int) []api.Term { return slices.Repeat([]api.Term{null()}, n) }

// deepOf is a term within so many others.
func deepOf(within int, t api.Term) api.Term {
	for k := range within {
		t = api.Term{Kind: api.KindTuple + k%2, L: []api.Term{t}}
	}
	return t
}

// endless is a list that holds itself.
func endless() api.Term {
	l := make([]api.Term, 1)
	l[0] = list(l...)
	return l[0]
}

// rights are terms that may be.
func rights() []api.Term {
	return []api.Term{
		null(), {Kind: api.KindBool}, {Kind: api.KindBool, N: 1}, in(0), in(api.MinInt), in(api.MaxInt), num(0, 0), num(-api.MaxPart, api.MaxPart), atom("a"), atom(strings.Repeat("z", 64)),
		{Kind: api.KindPid, P: api.Pid{N: 0, Gen: 1}}, {Kind: api.KindPid, P: api.Pid{N: 255, Gen: api.MaxInt}}, {Kind: api.KindRef, N: 1}, tuple(), list(), tuple(in(1), list(atom("b"))),
		list(nulls(1023)...), deepOf(63, in(1)),
	}
}

type wrong struct {
	t api.Term
	e api.Errno
}

// wrongs are terms that may not be, and what layer 3 tells of them.
func wrongs() []wrong {
	return []wrong{
		{api.Term{}, api.ErrTerm}, {api.Term{Kind: 10}, api.ErrTerm}, {api.Term{Kind: -1}, api.ErrTerm}, {in(api.MaxInt + 1), api.ErrTerm}, {in(api.MinInt - 1), api.ErrTerm}, {api.Term{Kind: api.KindBool, N: 2}, api.ErrTerm},
		{num(0.5, 0), api.ErrTerm}, {num(0, math.Copysign(0, -1)), api.ErrTerm}, {num(math.NaN(), 0), api.ErrTerm}, {atom(""), api.ErrTerm}, {atom("nil"), api.ErrTerm}, {api.Term{Kind: api.KindPid}, api.ErrTerm}, {api.Term{Kind: api.KindRef}, api.ErrTerm},
		{api.Term{Kind: api.KindInt, S: "a"}, api.ErrTerm}, {tuple(in(1), api.Term{}), api.ErrTerm}, {list(nulls(1024)...), api.ErrParts}, {deepOf(64, in(1)), api.ErrParts}, {endless(), api.ErrParts},
	}
}

// same tells whether two terms are the same in all fields, noughts' signs too; nil is the empty list.
func same(a, b api.Term) bool {
	bit := math.Float64bits
	return a.Kind == b.Kind && a.N == b.N && a.S == b.S && a.P == b.P && bit(real(a.C)) == bit(real(b.C)) && bit(imag(a.C)) == bit(imag(b.C)) && slices.EqualFunc(a.L, b.L, same)
}

func sameTerms(a, b []api.Term) bool { return slices.EqualFunc(a, b, same) }

func sameFrame(a, b api.Frame) bool {
	return a.Func == b.Func && a.At == b.At && a.Base == b.Base && sameTerms(a.Locals, b.Locals)
}

func sameView(a, b api.View) bool {
	return slices.EqualFunc(a.Frames, b.Frames, sameFrame) && sameTerms(a.Terms, b.Terms)
}

// call is a frame.
func call(fn, at, base int, locals ...api.Term) api.Frame {
	return api.Frame{Func: fn, At: at, Base: base, Locals: locals}
}

func view(terms []api.Term, frames ...api.Frame) api.View {
	return api.View{Frames: frames, Terms: terms}
}

// twoCalls are terms below, between and above two calls.
func twoCalls() api.View {
	return view(row(7), call(3, 5, 2, in(20), in(21)), call(4, 6, 4, in(30), in(31), in(32)))
}

// bare are terms without a call.
func bare() api.View { return view(row(3)) }

// views are of stacks of all shapes.
func views() []api.View {
	return []api.View{
		{}, bare(), twoCalls(), view(nil, call(0, 0, 0)), view(row(2), call(0, 0, 2)), view(row(1), call(63, 1023, 0, in(9)), call(1, 1, 1)), view(rights(), call(1, 2, 3, rights()...), call(4, 5, 3)),
		view(row(256)), view(row(256), call(0, 1, 256)), view(row(255), call(0, 1, 100, nulls(32)...)), view(row(9), slices.Repeat([]api.Frame{call(2, 3, 4, in(5))}, 64)...), view(nil, slices.Repeat([]api.Frame{call(2, 3, 0, nulls(32)...)}, 63)...),
	}
}

// load is the stack of a view.
func load(t *testing.T, v api.View) *frame.Stack {
	t.Helper()
	s, e := frame.Load(v)
	if e != api.OK || s == nil {
		t.Fatalf("Load(%v): %d", v, e)
	}
	return s
}

// want asks for an error.
func want(t *testing.T, what string, got, want api.Errno) {
	t.Helper()
	if got != want {
		t.Errorf("%s: %d, not %d", what, got, want)
	}
}

// wantTerm asks for a term and an error.
func wantTerm(t *testing.T, what string, got api.Term, e api.Errno, want api.Term, f api.Errno) {
	t.Helper()
	if !same(got, want) || e != f {
		t.Errorf("%s: %v, %d, not %v, %d", what, got, e, want, f)
	}
}

// wantNoTerm asks for an error, and for nothing beside it.
func wantNoTerm(t *testing.T, what string, got api.Term, e, f api.Errno) {
	t.Helper()
	if !reflect.DeepEqual(got, api.Term{}) || e != f {
		t.Errorf("%s: %v, %d, not %d", what, got, e, f)
	}
}

// holds asks of a stack all that can be told of it.
func holds(t *testing.T, s *frame.Stack, v api.View) {
	t.Helper()
	if u := s.View(); !sameView(u, v) {
		t.Fatalf("View: %v, not %v", u, v)
	}
	base := 0
	if len(v.Frames) > 0 {
		base = v.Frames[len(v.Frames)-1].Base
	}
	holdsTerms(t, s, v.Terms[base:])
	if s.Depth() != len(v.Frames) {
		t.Fatalf("Depth: %d, not %d", s.Depth(), len(v.Frames))
	}
	holdsCall(t, s, v.Frames)
}

// holdsTerms asks for those above the base.
func holdsTerms(t *testing.T, s *frame.Stack, terms []api.Term) {
	t.Helper()
	if s.Height() != len(terms) {
		t.Fatalf("Height: %d, not %d", s.Height(), len(terms))
	}
	for n := range terms {
		x, e := s.Peek(n)
		wantTerm(t, "Peek", x, e, terms[len(terms)-1-n], api.OK)
	}
	x, e := s.Peek(len(terms))
	wantNoTerm(t, "Peek below the base", x, e, api.ErrEmpty)
}

// holdsCall asks for the last frame.
func holdsCall(t *testing.T, s *frame.Stack, frames []api.Frame) {
	t.Helper()
	var f api.Frame
	e, none := api.ErrEmpty, api.ErrEmpty
	if len(frames) > 0 {
		f, e, none = frames[len(frames)-1], api.OK, api.ErrNone
	}
	if fn, at, got := s.Top(); fn != f.Func || at != f.At || got != e {
		t.Fatalf("Top: %d, %d, %d, not %d, %d, %d", fn, at, got, f.Func, f.At, e)
	}
	for i, x := range f.Locals {
		y, e := s.Local(i)
		wantTerm(t, "Local", y, e, x, api.OK)
	}
	for _, i := range []int{-1, len(f.Locals), least, most} {
		x, e := s.Local(i)
		wantNoTerm(t, "Local of none", x, e, none)
	}
}

// scribble writes over a list, and over the room behind its end.
func scribble[T any](l []T, x T) {
	l = l[:cap(l)]
	for i := range l {
		l[i] = x
	}
}

// scribbleView writes over all lists of a view.
func scribbleView(v api.View) {
	for _, f := range v.Frames {
		scribble(f.Locals, atom("scribbled"))
	}
	scribble(v.Terms, atom("scribbled"))
	scribble(v.Frames, api.Frame{Func: 63, At: 1023, Base: 0})
}
