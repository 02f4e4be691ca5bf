package term_test

import (
	"math"
	"slices"
	"strings"
	"testing"

	"carousel/api"
	"carousel/term"
)

const (
	least = -1 << 63
	most  = 1<<63 - 1
	part  = api.MaxPart
)

var noughtBelow = math.Copysign(0, -1)

func null() api.Term { return api.Term{Kind: api.KindNil} }

func truth(is bool) api.Term {
	if is {
		return api.Term{Kind: api.KindBool, N: 1}
	}
	return api.Term{Kind: api.KindBool}
}

func in(n int) api.Term { return api.Term{Kind: api.KindInt, N: n} }

func num(re, im int) api.Term {
	return api.Term{Kind: api.KindComplex, C: complex(float64(re), float64(im))}
}

func atom(s string) api.Term { return api.Term{Kind: api.KindAtom, S: s} }

func pid(n, gen int) api.Term { return api.Term{Kind: api.KindPid, P: api.Pid{N: n, Gen: gen}} }

func ref(n int) api.Term { return api.Term{Kind: api.KindRef, N: n} }

func tuple(l ...api.Term) api.Term { return api.Term{Kind: api.KindTuple, L: l} }

func list(l ...api.Term) api.Term { return api.Term{Kind: api.KindList, L: l} }

// wide is a list of that many parts, all but itself noughts.
func wide(parts int) api.Term { return list(slices.Repeat([]api.Term{in(0)}, parts-1)...) }

// deepOf is a term within so many others, lists and tuples by turns.
func deepOf(within int, t api.Term) api.Term {
	for i := range within {
		if i%2 == 0 {
			t = list(t)
		} else {
			t = tuple(t)
		}
	}
	return t
}

// endless is a list that holds itself.
func endless(kind int) api.Term {
	l := make([]api.Term, 1)
	l[0] = api.Term{Kind: kind, L: l}
	return l[0]
}

// samples are terms that may be, each ahead of the next one.
func samples() []api.Term {
	return []api.Term{
		null(),
		truth(false), truth(true),
		in(api.MinInt), in(-part - 1), in(-part), in(-1), in(0), in(1), in(2), in(part), in(part + 1), in(api.MaxInt),
		num(-part, -part), num(-part, 0), num(-part, part), num(-1, 5), num(0, -1), num(0, 0), num(0, 1), num(1, -9), num(1, 2), num(part, -part), num(part, part),
		atom("a"), atom("a0"), atom("aB"), atom("a_"), atom("aa"), atom("ab"), atom("b"), atom("falsE"), atom("nil_"), atom("z"), atom("z" + strings.Repeat("z", 63)),
		pid(0, 1), pid(0, 2), pid(0, api.MaxInt), pid(1, 1), pid(2, 1), pid(255, 1), pid(255, api.MaxInt),
		ref(1), ref(2), ref(10), ref(api.MaxInt),
		tuple(), tuple(null()), tuple(null(), in(7)), tuple(in(7)), tuple(in(7), null()), tuple(atom("a")), tuple(atom("a"), null()), tuple(atom("b")), tuple(tuple()), tuple(list()),
		list(), list(in(-1)), list(in(1), in(0)), list(in(1), in(0), in(0)), list(in(1), in(1)), list(num(1, 0)), list(atom("a")), list(atom("b")), list(tuple()), list(tuple(in(1))), list(list()), list(list(), list()), list(list(null())),
	}
}

// wrongs are terms that may not be, and what Check tells of them.
func wrongs() map[string]struct {
	t api.Term
	e api.Errno
} {
	type wrong = struct {
		t api.Term
		e api.Errno
	}
	return map[string]wrong{
		"no kind":            {api.Term{}, api.ErrTerm},
		"an int too great":   {in(api.MaxInt + 1), api.ErrTerm},
		"a wrong bool":       {api.Term{Kind: api.KindBool, N: 2}, api.ErrTerm},
		"a nought below":     {api.Term{Kind: api.KindComplex, C: complex(0, noughtBelow)}, api.ErrTerm},
		"no atom":            {atom("nil"), api.ErrTerm},
		"a list with no pid": {list(in(1), pid(0, 0)), api.ErrTerm},
		"too wide":           {wide(1025), api.ErrParts},
		"too deep":           {deepOf(64, in(1)), api.ErrParts},
		"endless":            {endless(api.KindList), api.ErrParts},
	}
}

// same tells whether two terms are the same in all fields, noughts' signs too; nil is the empty list.
func same(a, b api.Term) bool {
	bit := math.Float64bits
	return a.Kind == b.Kind && a.N == b.N && a.S == b.S && a.P == b.P &&
		bit(real(a.C)) == bit(real(b.C)) && bit(imag(a.C)) == bit(imag(b.C)) &&
		slices.EqualFunc(a.L, b.L, same)
}

// expect says that a call answered a term and an error.
func expect(t *testing.T, what any, got api.Term, e api.Errno, want api.Term, f api.Errno) {
	t.Helper()
	if !same(got, want) || e != f {
		t.Errorf("%v: %v, %d, not %v, %d", what, got, e, want, f)
	}
}

func unaries() []int {
	return []int{api.OpNeg, api.OpConj, api.OpNot, api.OpSize, api.OpHead, api.OpTail}
}

func binaries() []int {
	return []int{api.OpAdd, api.OpSub, api.OpMul, api.OpDiv, api.OpRem, api.OpTurn, api.OpEq, api.OpLess, api.OpElem, api.OpCons}
}

// others are numbers of operations, but for some.
func others(some []int) []int {
	l := []int{least, -1, 0, 47, 1 << 32, most}
	for op := 1; op <= api.OpYield; op++ {
		l = append(l, op)
	}
	return slices.DeleteFunc(l, func(op int) bool { return slices.Contains(some, op) })
}

// must is what an operation makes of two, where it is not refused.
func must(t *testing.T, op int, a, b api.Term) api.Term {
	t.Helper()
	x, e := term.Binary(op, a, b)
	if e != api.OK {
		t.Fatalf("Binary(%d, %v, %v): %d", op, a, b, e)
	}
	return x
}
