package term_test

import (
	"slices"
	"testing"

	"carousel/api"
	"carousel/term"
)

func TestTe2ByHand(t *testing.T) {
	for _, x := range []struct {
		op      int
		a, want api.Term
		e       api.Errno
	}{
		{api.OpNeg, in(7), in(-7), api.OK},
		{api.OpNeg, in(0), in(0), api.OK},
		{api.OpNeg, in(api.MaxInt), in(api.MinInt), api.OK},
		{api.OpNeg, in(api.MinInt), in(api.MaxInt), api.OK},
		{api.OpNeg, num(3, -4), num(-3, 4), api.OK},
		{api.OpNeg, num(0, 0), num(0, 0), api.OK},
		{api.OpNeg, num(5, 0), num(-5, 0), api.OK},
		{api.OpNeg, num(0, 5), num(0, -5), api.OK},
		{api.OpNeg, num(-part, part), num(part, -part), api.OK},
		{api.OpConj, in(7), in(7), api.OK},
		{api.OpConj, in(api.MinInt), in(api.MinInt), api.OK},
		{api.OpConj, num(3, 4), num(3, -4), api.OK},
		{api.OpConj, num(-3, -4), num(-3, 4), api.OK},
		{api.OpConj, num(3, 0), num(3, 0), api.OK},
		{api.OpConj, num(0, 0), num(0, 0), api.OK},
		{api.OpConj, num(part, -part), num(part, part), api.OK},
		{api.OpNot, truth(true), truth(false), api.OK},
		{api.OpNot, truth(false), truth(true), api.OK},
		{api.OpSize, tuple(), in(0), api.OK},
		{api.OpSize, list(), in(0), api.OK},
		{api.OpSize, tuple(in(1), tuple(in(2), in(3))), in(2), api.OK},
		{api.OpSize, wide(1024), in(1023), api.OK},
		{api.OpHead, list(atom("a"), in(1)), atom("a"), api.OK},
		{api.OpHead, list(list(in(1), in(2))), list(in(1), in(2)), api.OK},
		{api.OpHead, list(), api.Term{}, api.ErrRange},
		{api.OpTail, list(atom("a"), in(1), in(2)), list(in(1), in(2)), api.OK},
		{api.OpTail, list(in(1)), list(), api.OK},
		{api.OpTail, list(), api.Term{}, api.ErrRange},
		{api.OpHead, tuple(in(1)), api.Term{}, api.ErrKind},
		{api.OpHead, tuple(), api.Term{}, api.ErrKind},
		{api.OpTail, tuple(in(1)), api.Term{}, api.ErrKind},
	} {
		got, e := term.Unary(x.op, x.a)
		expect(t, []any{x.op, x.a}, got, e, x.want, x.e)
	}
}

// unaryOf tells whether an operation is of a kind.
func unaryOf(op, kind int) bool {
	switch op {
	case api.OpNeg, api.OpConj:
		return kind == api.KindInt || kind == api.KindComplex
	case api.OpNot:
		return kind == api.KindBool
	case api.OpSize:
		return kind == api.KindTuple || kind == api.KindList
	}
	return kind == api.KindList
}

func TestTe2Refused(t *testing.T) {
	for _, op := range unaries() {
		for _, a := range samples() {
			if !unaryOf(op, a.Kind) {
				got, e := term.Unary(op, a)
				expect(t, []any{op, a}, got, e, api.Term{}, api.ErrKind)
			}
		}
		for name, x := range wrongs() {
			got, e := term.Unary(op, x.t)
			expect(t, []any{op, name}, got, e, api.Term{}, x.e)
		}
	}
	for _, op := range others(unaries()) {
		for _, a := range samples() {
			got, e := term.Unary(op, a)
			expect(t, []any{op, a}, got, e, api.Term{}, api.ErrArg)
		}
		for name, x := range wrongs() {
			got, e := term.Unary(op, x.t)
			expect(t, []any{op, name}, got, e, api.Term{}, api.ErrArg)
		}
	}
}

func TestTe3EqAndLess(t *testing.T) {
	l := samples()
	for i, a := range l {
		for j, b := range l {
			got, e := term.Binary(api.OpEq, a, b)
			expect(t, []any{a, "==", b}, got, e, truth(i == j), api.OK)
			got, e = term.Binary(api.OpLess, a, b)
			expect(t, []any{a, "<", b}, got, e, truth(i < j), api.OK)
		}
	}
}

func TestTe3Elem(t *testing.T) {
	items := []api.Term{atom("a"), list(in(1)), num(1, 2)}
	for _, l := range [][]api.Term{nil, items[:1], items} {
		for _, whole := range []api.Term{tuple(l...), list(l...)} {
			for _, n := range []int{api.MinInt, -1, 0, 1, 2, 3, 4, 1 << 32, api.MaxInt} {
				want, f := api.Term{}, api.ErrRange
				if n >= 0 && n < len(l) {
					want, f = l[n], api.OK
				}
				got, e := term.Binary(api.OpElem, whole, in(n))
				expect(t, []any{whole, n}, got, e, want, f)
			}
		}
	}
	x := wide(1024)
	x.L[1022] = atom("last")
	got, e := term.Binary(api.OpElem, x, in(1022))
	expect(t, "the last of 1023", got, e, atom("last"), api.OK)
}

func TestTe3Cons(t *testing.T) {
	for _, x := range []struct {
		name       string
		a, b, want api.Term
		e          api.Errno
	}{
		{"of none", in(1), list(), list(in(1)), api.OK},
		{"of two", atom("a"), list(in(1), in(2)), list(atom("a"), in(1), in(2)), api.OK},
		{"of a list", list(in(1)), list(in(2)), list(list(in(1)), in(2)), api.OK},
		{"of a tuple", tuple(), list(tuple()), list(tuple(), tuple()), api.OK},
		{"1024 parts", in(0), wide(1023), wide(1024), api.OK},
		{"1025 parts", in(0), wide(1024), api.Term{}, api.ErrParts},
		{"1024 parts of two", wide(500), wide(524), list(slices.Insert(slices.Clone(wide(524).L), 0, wide(500))...), api.OK},
		{"1025 parts of two", wide(500), wide(525), api.Term{}, api.ErrParts},
		{"the most of two", wide(1024), wide(1024), api.Term{}, api.ErrParts},
		{"1024 parts and none", wide(1024), list(), api.Term{}, api.ErrParts},
		{"64 deep", deepOf(62, in(1)), list(), list(deepOf(62, in(1))), api.OK},
		{"65 deep", deepOf(63, in(1)), list(), api.Term{}, api.ErrParts},
		{"65 deep ahead of others", deepOf(63, in(1)), list(in(1)), api.Term{}, api.ErrParts},
		{"a list 64 deep", in(1), list(deepOf(62, in(1))), list(in(1), deepOf(62, in(1))), api.OK},
	} {
		got, e := term.Binary(api.OpCons, x.a, x.b)
		expect(t, "cons "+x.name, got, e, x.want, x.e)
	}
}

func number(kind int) bool { return kind == api.KindInt || kind == api.KindComplex }

// binaryOf tells whether an operation is of two kinds.
func binaryOf(op, a, b int) bool {
	switch op {
	case api.OpAdd, api.OpSub, api.OpMul:
		return number(a) && number(b)
	case api.OpDiv, api.OpRem:
		return a == api.KindInt && b == api.KindInt
	case api.OpTurn:
		return number(a) && b == api.KindInt
	case api.OpElem:
		return (a == api.KindTuple || a == api.KindList) && b == api.KindInt
	case api.OpCons:
		return b == api.KindList
	}
	return true
}

// What is of another kind is told ahead of noughts and of numbers beyond: samples have these too.
func TestTe3Kinds(t *testing.T) {
	for _, op := range binaries() {
		for _, a := range samples() {
			for _, b := range samples() {
				got, e := term.Binary(op, a, b)
				if binaryOf(op, a.Kind, b.Kind) {
					if e == api.ErrKind || e == api.ErrArg || e == api.ErrTerm {
						t.Errorf("Binary(%d, %v, %v): %d", op, a, b, e)
					}
					continue
				}
				expect(t, []any{op, a, b}, got, e, api.Term{}, api.ErrKind)
			}
		}
	}
}

func TestTe3Refused(t *testing.T) {
	for _, op := range others(binaries()) {
		got, e := term.Binary(op, in(1), in(2))
		expect(t, op, got, e, api.Term{}, api.ErrArg)
		for name, x := range wrongs() {
			got, e = term.Binary(op, x.t, in(2))
			expect(t, []any{op, name}, got, e, api.Term{}, api.ErrArg)
			got, e = term.Binary(op, in(1), x.t)
			expect(t, []any{op, name}, got, e, api.Term{}, api.ErrArg)
		}
	}
	for _, op := range binaries() {
		for name, x := range wrongs() {
			for _, a := range samples() {
				got, e := term.Binary(op, x.t, a)
				expect(t, []any{op, name, a}, got, e, api.Term{}, x.e)
				got, e = term.Binary(op, a, x.t)
				expect(t, []any{op, a, name}, got, e, api.Term{}, x.e)
			}
			for other, y := range wrongs() {
				got, e := term.Binary(op, x.t, y.t)
				expect(t, []any{op, name, other}, got, e, api.Term{}, x.e)
			}
		}
	}
}

func TestTe4Make(t *testing.T) {
	for _, kind := range []int{api.KindTuple, api.KindList} {
		for _, x := range []struct {
			name string
			l    []api.Term
			e    api.Errno
		}{
			{"nil", nil, api.OK},
			{"the empty list", []api.Term{}, api.OK},
			{"all samples", samples(), api.OK},
			{"1024 parts", wide(1024).L, api.OK},
			{"1025 parts", wide(1025).L, api.ErrParts},
			{"100000 parts", wide(100000).L, api.ErrParts},
			{"a term of 1023 parts", []api.Term{wide(1023)}, api.OK},
			{"a term of 1024 parts", []api.Term{wide(1024)}, api.ErrParts},
			{"1024 parts of three", []api.Term{wide(500), wide(500), wide(23)}, api.OK},
			{"1025 parts of three", []api.Term{wide(500), wide(500), wide(24)}, api.ErrParts},
			{"many of 1024 parts", slices.Repeat([]api.Term{wide(1024)}, 40), api.ErrParts},
			{"64 deep", []api.Term{in(1), deepOf(62, in(1)), in(1)}, api.OK},
			{"65 deep", []api.Term{in(1), deepOf(63, in(1)), in(1)}, api.ErrParts},
			{"no term", []api.Term{{}}, api.ErrTerm},
			{"no term behind too many", append(wide(5000).L, api.Term{}), api.ErrTerm},
			{"no term behind too deep", []api.Term{deepOf(63, in(1)), {}}, api.ErrTerm},
			{"no term behind what may not be so deep", []api.Term{deepOf(64, in(1)), {}}, api.ErrParts},
			{"no term ahead of what may not be so deep", []api.Term{{}, deepOf(64, in(1))}, api.ErrTerm},
			{"no term behind what may not have so many", []api.Term{in(1), wide(1025), {}}, api.ErrParts},
			{"no term at place 1024 of its own list", []api.Term{wide(1000), with(1024, 1024)}, api.ErrTerm},
		} {
			want := api.Term{}
			if x.e == api.OK {
				want = api.Term{Kind: kind, L: x.l}
			}
			got, e := term.Make(kind, x.l)
			expect(t, []any{"Make", kind, x.name}, got, e, want, x.e)
			if e == api.OK && term.Check(got) != api.OK {
				t.Error("Make of", x.name, "may not be")
			}
		}
	}
}

func TestTe4MakeOfNoKind(t *testing.T) {
	for _, kind := range []int{least, -1, 0, api.KindNil, api.KindBool, api.KindInt, api.KindComplex, api.KindAtom, api.KindPid, api.KindRef, api.KindList + 1, most} {
		for _, l := range [][]api.Term{nil, {in(1)}, {{}}, wide(2000).L, {deepOf(64, in(1))}} {
			got, e := term.Make(kind, l)
			expect(t, []any{"Make", kind}, got, e, api.Term{}, api.ErrArg)
		}
	}
}

// spare is a list in a greater room, which has something behind the list's end.
func spare() []api.Term {
	room := []api.Term{atom("a"), list(in(1), in(2)), in(3), atom("behind"), {Kind: 99}}
	return room[:3]
}

// What stands behind a list's end is not read, and nothing that is handed in is written.
func TestR3WhatIsHandedInIsOnlyRead(t *testing.T) {
	l := spare()
	kept := slices.Clone(l[:cap(l)])
	for _, kind := range []int{api.KindTuple, api.KindList} {
		x := api.Term{Kind: kind, L: l}
		if e := term.Check(x); e != api.OK {
			t.Error(e)
		}
		if p, d, e := term.Parts(x); p != 6 || d != 3 || e != api.OK {
			t.Error(p, d, e)
		}
		if _, e := term.Make(kind, l); e != api.OK {
			t.Error(e)
		}
		if _, e := term.Compare(x, x); e != api.OK {
			t.Error(e)
		}
		for _, op := range unaries() {
			term.Unary(op, x)
		}
		for _, op := range binaries() {
			for _, other := range []api.Term{in(2), in(3), x} {
				term.Binary(op, x, other)
				term.Binary(op, other, x)
			}
		}
		if !slices.EqualFunc(l[:cap(l)], kept, same) {
			t.Fatal("written over:", l[:cap(l)])
		}
	}
}

// A list that an answer is made of is new: whoever writes it writes none that was handed in, nor another answer's.
func TestR3WhatIsAnsweredIsNew(t *testing.T) {
	for name, call := range map[string]func(l []api.Term) (api.Term, api.Errno){
		"Make of a tuple": func(l []api.Term) (api.Term, api.Errno) { return term.Make(api.KindTuple, l) },
		"Make of a list":  func(l []api.Term) (api.Term, api.Errno) { return term.Make(api.KindList, l) },
		"Make of none":    func(l []api.Term) (api.Term, api.Errno) { return term.Make(api.KindList, l[:0]) },
		"OpTail":          func(l []api.Term) (api.Term, api.Errno) { return term.Unary(api.OpTail, list(l...)) },
		"OpTail of one":   func(l []api.Term) (api.Term, api.Errno) { return term.Unary(api.OpTail, list(l[:1]...)) },
		"OpCons":          func(l []api.Term) (api.Term, api.Errno) { return term.Binary(api.OpCons, in(9), list(l...)) },
		"OpCons of none":  func(l []api.Term) (api.Term, api.Errno) { return term.Binary(api.OpCons, in(9), list(l[:0]...)) },
	} {
		l := spare()
		kept := slices.Clone(l[:cap(l)])
		x, e := call(l)
		y, f := call(l)
		if e != api.OK || f != api.OK || !same(x, y) {
			t.Errorf("%s: %v, %d, %v, %d", name, x, e, y, f)
		}
		before := slices.Clone(y.L)
		for i := range cap(x.L) {
			x.L[:cap(x.L)][i] = atom("written")
		}
		if !slices.EqualFunc(l[:cap(l)], kept, same) {
			t.Errorf("%s shares memory with what was handed in", name)
		}
		if !slices.EqualFunc(y.L, before, same) {
			t.Errorf("%s shares memory with another answer", name)
		}
	}
}

// The same calls are answered alike, whatever was called between.
func TestR4CallsKnowNothingOfOneAnother(t *testing.T) {
	for range 3 {
		got, e := term.Unary(api.OpTail, list(in(1), in(2)))
		expect(t, "tail", got, e, list(in(2)), api.OK)
		got, e = term.Binary(api.OpMul, num(1, 2), num(3, 4))
		expect(t, "product", got, e, num(-5, 10), api.OK)
		if p, d, e := term.Parts(tuple(in(1), tuple())); p != 3 || d != 2 || e != api.OK {
			t.Error(p, d, e)
		}
		term.Check(wide(1025))
		term.Check(deepOf(64, in(1)))
		term.Binary(api.OpTurn, num(3, 4), in(3))
	}
}
