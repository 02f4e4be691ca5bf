package term_test

import (
	"testing"

	"carousel/api"
	"carousel/term"
)

func compare(t *testing.T, a, b api.Term) int {
	t.Helper()
	k, e := term.Compare(a, b)
	if e != api.OK {
		t.Fatalf("Compare(%v, %v): %d", a, b, e)
	}
	return k
}

func TestTe5CompareIsATotalOrder(t *testing.T) {
	l := samples()
	l = append(l, tuple(l[5:30]...), list(l...), tuple(list(l...)), list(tuple(l[5:30]...)), wide(1024), deepOf(63, in(1)))
	for _, a := range l {
		if compare(t, a, a) != 0 {
			t.Errorf("%v is not the same as itself", a)
		}
		for _, b := range l {
			k := compare(t, a, b)
			if k < -1 || k > 1 || compare(t, b, a) != -k {
				t.Errorf("%v and %v: %d, the other way round %d", a, b, k, compare(t, b, a))
			}
			if (k == 0) != same(a, b) {
				t.Errorf("%v and %v: %d", a, b, k)
			}
		}
	}
	const small = 40
	for _, a := range l[:small] {
		for _, b := range l[:small] {
			for _, c := range l[:small] {
				if compare(t, a, b) <= 0 && compare(t, b, c) <= 0 && compare(t, a, c) > 0 {
					t.Errorf("%v, %v, %v do not stand in order", a, b, c)
				}
			}
		}
	}
}

// numbers are some of which products of three are within their bounds.
func numbers() []api.Term {
	var l []api.Term
	for _, re := range []int{-500, -3, 0, 1, 2, 499} {
		for _, im := range []int{-500, -1, 0, 4} {
			l = append(l, num(re, im))
		}
	}
	return append(l, in(-7), in(0), in(1), in(500))
}

func wantSame(t *testing.T, law string, a, b api.Term) {
	t.Helper()
	if !same(a, b) {
		t.Errorf("%s: %v, %v", law, a, b)
	}
}

func TestTe6SumsAndProducts(t *testing.T) {
	add := func(a, b api.Term) api.Term { return must(t, api.OpAdd, a, b) }
	mul := func(a, b api.Term) api.Term { return must(t, api.OpMul, a, b) }
	for _, a := range numbers() {
		for _, b := range numbers() {
			wantSame(t, "sums both ways round", add(a, b), add(b, a))
			wantSame(t, "products both ways round", mul(a, b), mul(b, a))
			wantSame(t, "a difference", must(t, api.OpSub, add(a, b), b), add(a, must(t, api.OpSub, b, b)))
			for _, c := range numbers() {
				wantSame(t, "sums in any grouping", add(add(a, b), c), add(a, add(b, c)))
				wantSame(t, "products in any grouping", mul(mul(a, b), c), mul(a, mul(b, c)))
				wantSame(t, "products through sums", mul(a, add(b, c)), add(mul(a, b), mul(a, c)))
			}
		}
	}
}

func unary(t *testing.T, op int, a api.Term) api.Term {
	t.Helper()
	x, e := term.Unary(op, a)
	if e != api.OK {
		t.Fatalf("Unary(%d, %v): %d", op, a, e)
	}
	return x
}

func TestTe6Conj(t *testing.T) {
	conj := func(a api.Term) api.Term { return unary(t, api.OpConj, a) }
	for _, a := range numbers() {
		if a.Kind != api.KindComplex || a.C == 0 {
			continue
		}
		_, square, e := term.Polar(a)
		if e != api.OK {
			t.Fatal(a, e)
		}
		wantSame(t, "times the conjugate", must(t, api.OpMul, a, conj(a)), num(square, 0))
		wantSame(t, "twice the conjugate", conj(conj(a)), a)
		wantSame(t, "twice the other sign", unary(t, api.OpNeg, unary(t, api.OpNeg, a)), a)
		for _, b := range numbers() {
			wantSame(t, "the conjugate of a product", conj(must(t, api.OpMul, a, b)), must(t, api.OpMul, conj(a), conj(b)))
		}
	}
	// At the greatest squares that a part may be: 2^30 is 2^15 times 2^15.
	a := num(32767, -255)
	wantSame(t, "a great square", must(t, api.OpMul, a, conj(a)), num(32767*32767+255*255, 0))
}

func TestTe6Turn(t *testing.T) {
	for _, a := range append(numbers(), num(part, -part), num(-part, 1), num(part-1, part)) {
		if a.Kind != api.KindComplex {
			continue
		}
		once := must(t, api.OpTurn, a, in(1))
		wantSame(t, "a turn by 4", must(t, api.OpTurn, a, in(4)), a)
		wantSame(t, "a turn by 1", once, must(t, api.OpMul, a, num(0, 1)))
		wantSame(t, "a turn there and back", must(t, api.OpTurn, once, in(-1)), a)
		if a.C == 0 {
			continue
		}
		q, s, e := term.Polar(a)
		r, u, f := term.Polar(once)
		if e != api.OK || f != api.OK || r != (q+1)%4 || s != u {
			t.Errorf("%v turned: %d, %d; %d, %d", a, q, s, r, u)
		}
	}
}

func TestTe7DivAndRem(t *testing.T) {
	for _, a := range edges() {
		for _, b := range edges() {
			if b == 0 {
				continue
			}
			q, r := must(t, api.OpDiv, in(a), in(b)), must(t, api.OpRem, in(a), in(b))
			wantSame(t, "quotient and rest", must(t, api.OpAdd, must(t, api.OpMul, q, in(b)), r), in(a))
			if r.N != 0 && (r.N < 0) != (a < 0) {
				t.Errorf("the rest of %d by %d has another sign: %d", a, b, r.N)
			}
			if max(r.N, -r.N) >= max(b, -b) {
				t.Errorf("the rest of %d by %d is too great: %d", a, b, r.N)
			}
		}
	}
}

func TestTe7HeadAndTail(t *testing.T) {
	for _, l := range []api.Term{list(in(1)), list(samples()...), wide(1024), list(tuple(in(1)), list()), deepOf(63, in(1))} {
		if l.Kind != api.KindList {
			l = list(l.L...)
		}
		wantSame(t, "head and tail", must(t, api.OpCons, unary(t, api.OpHead, l), unary(t, api.OpTail, l)), l)
	}
	for _, l := range []api.Term{list(), list(in(1)), list(in(1), in(2))} {
		for _, a := range samples() {
			x := must(t, api.OpCons, a, l)
			wantSame(t, "head of cons", unary(t, api.OpHead, x), a)
			wantSame(t, "tail of cons", unary(t, api.OpTail, x), l)
		}
	}
}
