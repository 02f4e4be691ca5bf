package box_test

import (
	"fmt"
	"math"
	"reflect"
	"slices"
	"strings"
	"testing"

	"carousel/api"
	"carousel/box"
	"carousel/pattern"
	"carousel/text"
)

const (
	least = -1 << 63
	most  = 1<<63 - 1
)

func null() api.Term { return api.Term{Kind: api.KindNil} }

func in(n int) api.Term { return api.Term{Kind: api.KindInt, N: n} }

func num(re, im float64) api.Term { return api.Term{Kind: api.KindComplex, C: complex(re, im)} }

func atom(s string) api.Term { return api.Term{Kind: api.KindAtom, S: s} }

func pid(n, gen int) api.Term { return api.Term{Kind: api.KindPid, P: api.Pid{N: n, Gen: gen}} }

func ref(n int) api.Term { return api.Term{Kind: api.KindRef, N: n} }

func tuple(l ...api.Term) api.Term { return api.Term{Kind: api.KindTuple, L: l} }

func list(l ...api.Term) api.Term { return api.Term{Kind: api.KindList, L: l} }

func scribbled() api.Term { return atom("scribbled") }

// row are the ints from a number on.
func row(from, n int) []api.Term {
	var l []api.Term
	for k := range n {
		l = append(l, in(from+k))
	}
	return l
}

// nulls are n terms nil.
func nulls(n int) []api.Term { return slices.Repeat([]api.Term{null()}, n) }

// deepOf is a term within so many others.
func deepOf(within int, t api.Term) api.Term {
	for k := range within {
		t = api.Term{Kind: api.KindTuple + k%2, L: []api.Term{t}}
	}
	return t
}

// endless is a list that holds itself.
func endless() api.Term {
	l := make([]api.Term, 1)
	l[0] = list(l...)
	return l[0]
}

// rights are terms that may be.
func rights() []api.Term {
	return []api.Term{
		null(), {Kind: api.KindBool}, {Kind: api.KindBool, N: 1}, in(0), in(api.MinInt), in(api.MaxInt), num(0, 0), num(-api.MaxPart, api.MaxPart), atom("a"), atom(strings.Repeat("z", 64)),
		pid(0, 1), pid(255, api.MaxInt), ref(1), tuple(), list(), tuple(in(1), list(atom("b"))), list(nulls(1023)...), deepOf(63, in(1)),
	}
}

type wrong struct {
	t api.Term
	e api.Errno
}

// wrongs are terms that may not be, and what layer 3 tells of them.
func wrongs() []wrong {
	return []wrong{
		{api.Term{}, api.ErrTerm}, {api.Term{Kind: 10}, api.ErrTerm}, {api.Term{Kind: -1}, api.ErrTerm}, {in(api.MaxInt + 1), api.ErrTerm}, {in(api.MinInt - 1), api.ErrTerm}, {api.Term{Kind: api.KindBool, N: 2}, api.ErrTerm},
		{num(0.5, 0), api.ErrTerm}, {num(0, math.Copysign(0, -1)), api.ErrTerm}, {num(math.NaN(), 0), api.ErrTerm}, {atom(""), api.ErrTerm}, {atom("nil"), api.ErrTerm}, {pid(256, 1), api.ErrTerm}, {pid(0, 0), api.ErrTerm}, {ref(0), api.ErrTerm},
		{api.Term{Kind: api.KindInt, S: "a"}, api.ErrTerm}, {tuple(in(1), api.Term{}), api.ErrTerm}, {list(nulls(1024)...), api.ErrParts}, {deepOf(64, in(1)), api.ErrParts}, {endless(), api.ErrParts},
	}
}

func whatever() api.Pattern { return api.Pattern{Kind: api.PatAny} }

func local(n int) api.Pattern { return api.Pattern{Kind: api.PatVar, N: n} }

func just(t api.Term) api.Pattern { return api.Pattern{Kind: api.PatTerm, Term: t} }

func tup(l ...api.Pattern) api.Pattern { return api.Pattern{Kind: api.PatTuple, L: l} }

func anything() []api.Pattern { return []api.Pattern{whatever()} }

type wrongPattern struct {
	p api.Pattern
	e api.Errno
}

// wrongPatterns are patterns that may not be, and what layer 5 tells of them.
func wrongPatterns() []wrongPattern {
	deep := whatever()
	for range 64 {
		deep = tup(deep)
	}
	endless := make([]api.Pattern, 1)
	endless[0] = tup(endless...)
	return []wrongPattern{
		{api.Pattern{}, api.ErrPattern}, {api.Pattern{Kind: 7}, api.ErrPattern}, {local(-1), api.ErrPattern}, {local(32), api.ErrPattern}, {tup(local(0), local(0)), api.ErrPattern}, {just(tuple()), api.ErrPattern}, {just(api.Term{}), api.ErrPattern},
		{api.Pattern{Kind: api.PatKind, N: 10}, api.ErrPattern}, {api.Pattern{Kind: api.PatAny, N: 1}, api.ErrPattern}, {tup(slices.Repeat(anything(), 1024)...), api.ErrParts}, {deep, api.ErrParts}, {endless[0], api.ErrParts},
	}
}

// terms are those of texts that stand with "; " between; none of the empty text.
func terms(t *testing.T, s string) []api.Term {
	t.Helper()
	var l []api.Term
	for _, x := range split(s) {
		y, e, at := text.Parse(x)
		if e != api.OK {
			t.Fatalf("%q is no term: %d, %d", x, e, at)
		}
		l = append(l, y)
	}
	return l
}

// pats are patterns, likewise.
func pats(t *testing.T, s string) []api.Pattern {
	t.Helper()
	var l []api.Pattern
	for _, x := range split(s) {
		p, e, at := pattern.Parse(x)
		if e != api.OK {
			t.Fatalf("%q is no pattern: %d, %d", x, e, at)
		}
		l = append(l, p)
	}
	return l
}

func split(s string) []string {
	if s == "" {
		return nil
	}
	return strings.Split(s, "; ")
}

// state is all that can be told of a box.
type state struct {
	lanes [2][]api.Term
	marks [2]int
}

func stateOf(system, user []api.Term, s, u int) state {
	return state{[2][]api.Term{system, user}, [2]int{s, u}}
}

// told is a state by the texts of its terms.
func told(t *testing.T, system, user string, s, u int) state {
	t.Helper()
	return stateOf(terms(t, system), terms(t, user), s, u)
}

func (s state) load(t *testing.T) *box.Box {
	t.Helper()
	b, e := box.Load(s.lanes[0], s.lanes[1], s.marks)
	if e != api.OK || b == nil {
		t.Fatalf("Load(%v): %d", s, e)
	}
	return b
}

// without is a state behind a Recv that took a message out.
func (s state) without(lane, at int) state {
	s.lanes[lane] = slices.Delete(slices.Clone(s.lanes[lane]), at, at+1)
	s.marks = [2]int{}
	return s
}

// searched is a state behind a Recv that found none.
func (s state) searched() state {
	s.marks = [2]int{len(s.lanes[0]), len(s.lanes[1])}
	return s
}

// with is a state behind a Put.
func (s state) with(lane int, x api.Term) state {
	s.lanes[lane] = append(slices.Clone(s.lanes[lane]), x)
	return s
}

// same tells whether two terms are the same in all fields, noughts' signs too; nil is the empty list.
func same(a, b api.Term) bool {
	bit := math.Float64bits
	return a.Kind == b.Kind && a.N == b.N && a.S == b.S && a.P == b.P && bit(real(a.C)) == bit(real(b.C)) && bit(imag(a.C)) == bit(imag(b.C)) && slices.EqualFunc(a.L, b.L, same)
}

func sameTerms(a, b []api.Term) bool { return slices.EqualFunc(a, b, same) }

func sameBind(a, b api.Bind) bool { return a.Local == b.Local && same(a.Term, b.Term) }

func sameBinds(a, b []api.Bind) bool { return slices.EqualFunc(a, b, sameBind) }

// show is terms' text in a failure.
func show(l ...api.Term) string {
	var parts []string
	for _, x := range l {
		s, e := text.Print(x)
		if e != api.OK {
			s = "?"
		}
		if len(s) > 40 {
			s = s[:40] + ".."
		}
		parts = append(parts, s)
	}
	if len(parts) > 20 {
		parts = append(parts[:20], fmt.Sprint("and more, in all ", len(l)))
	}
	return "(" + strings.Join(parts, "; ") + ")"
}

// holds asks of a box all that can be told of it.
func holds(t *testing.T, b *box.Box, s state) {
	t.Helper()
	for i, l := range s.lanes {
		if got := b.Lane(i); !sameTerms(got, l) {
			t.Fatalf("Lane(%d): %s, not %s", i, show(got...), show(l...))
		}
		if n := b.Len(i); n != len(l) {
			t.Fatalf("Len(%d): %d, not %d", i, n, len(l))
		}
	}
	if m := b.Marks(); m != s.marks {
		t.Fatalf("Marks: %v, not %v", m, s.marks)
	}
}

// want asks for an error.
func want(t *testing.T, what string, got, want api.Errno) {
	t.Helper()
	if got != want {
		t.Errorf("%s: %d, not %d", what, got, want)
	}
}

// wantRecv asks for a message, by which pattern it comes, and what that binds.
func wantRecv(t *testing.T, b *box.Box, ps []api.Pattern, x api.Term, arm int, binds ...api.Bind) {
	t.Helper()
	y, a, l, e := b.Recv(ps)
	if !same(x, y) || a != arm || !sameBinds(l, binds) || e != api.OK {
		t.Fatalf("Recv: %s, %d, %v, %d, not %s, %d, %v", show(y), a, l, e, show(x), arm, binds)
	}
}

// wantNoRecv asks for an error, and for nothing beside it.
func wantNoRecv(t *testing.T, b *box.Box, ps []api.Pattern, f api.Errno) {
	t.Helper()
	x, arm, binds, e := b.Recv(ps)
	if !reflect.DeepEqual(x, api.Term{}) || arm != 0 || len(binds) > 0 || e != f {
		t.Fatalf("Recv: %s, %d, %v, %d, not %d", show(x), arm, binds, e, f)
	}
}

// wantNoLoad asks for an error, and for no box.
func wantNoLoad(t *testing.T, s state, f api.Errno) {
	t.Helper()
	if b, e := box.Load(s.lanes[0], s.lanes[1], s.marks); b != nil || e != f {
		t.Errorf("Load of %d and %d messages, marks %v: %v, %d, not %d", len(s.lanes[0]), len(s.lanes[1]), s.marks, b, e, f)
	}
}

// scribble writes over a list, and over the room behind its end.
func scribble[T any](l []T, x T) {
	l = l[:cap(l)]
	for i := range l {
		l[i] = x
	}
}

// roomy is a list with room behind its end, with something there.
func roomy[T any](l []T, behind ...T) []T {
	return slices.Concat(l, behind)[:len(l)]
}
