package term_test

import (
	"math/big"
	"slices"
	"testing"

	"carousel/api"
	"carousel/term"
)

// edges are ints at their bounds, and ordinary ones.
func edges() []int {
	return []int{
		api.MinInt, api.MinInt + 1, -1<<61 - 1, -1 << 61, -part * part / 2, -3037000500, -1 << 31, -1<<31 + 1, -part - 1, -part, -part + 1, -1000003, -8, -7, -3, -2, -1,
		0, 1, 2, 3, 4, 5, 7, 46341, part - 1, part, part + 1, 1<<31 - 1, 1 << 31, 1<<31 + 1, 1 << 32, 1<<61 - 1, 1 << 61, 1<<61 + 1, api.MaxInt / 3, api.MaxInt - 1, api.MaxInt,
	}
}

func great(n int) *big.Int { return big.NewInt(int64(n)) }

// within is a big number as an int from least to most; false, if it is beyond.
func within(x *big.Int, least, most int) (int, bool) {
	if x.Cmp(great(least)) < 0 || x.Cmp(great(most)) > 0 {
		return 0, false
	}
	return int(x.Int64()), true
}

// bigOf is an operation on ints, worked out in big ones.
func bigOf(op, a, b int) (api.Term, api.Errno) {
	x := new(big.Int)
	switch op {
	case api.OpAdd:
		x.Add(great(a), great(b))
	case api.OpSub:
		x.Sub(great(a), great(b))
	case api.OpMul:
		x.Mul(great(a), great(b))
	case api.OpDiv, api.OpRem:
		if b == 0 {
			return api.Term{}, api.ErrZero
		}
		y := new(big.Int)
		x.QuoRem(great(a), great(b), y)
		if op == api.OpRem {
			x = y
		}
	}
	n, ok := within(x, api.MinInt, api.MaxInt)
	if !ok {
		return api.Term{}, api.ErrRange
	}
	return in(n), api.OK
}

func TestTe3OfAllInts(t *testing.T) {
	for _, op := range []int{api.OpAdd, api.OpSub, api.OpMul, api.OpDiv, api.OpRem} {
		for _, a := range edges() {
			for _, b := range edges() {
				want, f := bigOf(op, a, b)
				got, e := term.Binary(op, in(a), in(b))
				expect(t, []any{op, a, b}, got, e, want, f)
			}
		}
	}
}

func TestTe3IntsByHand(t *testing.T) {
	for _, x := range []struct {
		op, a, b, want int
		e              api.Errno
	}{
		{api.OpAdd, 1, 2, 3, api.OK},
		{api.OpSub, 1, 2, -1, api.OK},
		{api.OpMul, -3, 5, -15, api.OK},
		{api.OpAdd, api.MaxInt, 1, 0, api.ErrRange},
		{api.OpAdd, api.MaxInt, 0, api.MaxInt, api.OK},
		{api.OpAdd, api.MaxInt - 1, 1, api.MaxInt, api.OK},
		{api.OpAdd, api.MaxInt, api.MaxInt, 0, api.ErrRange},
		{api.OpSub, api.MinInt, 1, 0, api.ErrRange},
		{api.OpSub, api.MinInt, api.MaxInt, 0, api.ErrRange},
		{api.OpMul, 1 << 31, 1 << 31, 0, api.ErrRange},
		{api.OpMul, 1 << 31, 1<<31 - 1, 1<<62 - 1<<31, api.OK},
		{api.OpMul, api.MaxInt, -1, api.MinInt, api.OK},
		{api.OpMul, api.MinInt, -1, api.MaxInt, api.OK},
		{api.OpMul, api.MaxInt, 2, 0, api.ErrRange},
		{api.OpMul, 1 << 61, 8, 0, api.ErrRange},
		{api.OpMul, api.MinInt, api.MinInt, 0, api.ErrRange},
		{api.OpMul, 0, api.MinInt, 0, api.OK},
		{api.OpDiv, 7, 2, 3, api.OK},
		{api.OpDiv, -7, 2, -3, api.OK},
		{api.OpDiv, 7, -2, -3, api.OK},
		{api.OpDiv, -7, -2, 3, api.OK},
		{api.OpDiv, api.MinInt, -1, api.MaxInt, api.OK},
		{api.OpRem, 7, 2, 1, api.OK},
		{api.OpRem, -7, 2, -1, api.OK},
		{api.OpRem, 7, -2, 1, api.OK},
		{api.OpRem, -7, -2, -1, api.OK},
		{api.OpRem, api.MinInt, -1, 0, api.OK},
		{api.OpDiv, 1, 0, 0, api.ErrZero},
		{api.OpRem, 1, 0, 0, api.ErrZero},
		{api.OpDiv, 0, 0, 0, api.ErrZero},
		{api.OpRem, api.MinInt, 0, 0, api.ErrZero},
	} {
		want := api.Term{}
		if x.e == api.OK {
			want = in(x.want)
		}
		got, e := term.Binary(x.op, in(x.a), in(x.b))
		expect(t, x, got, e, want, x.e)
	}
}

// bigParts are the parts of an operation on complex numbers, worked out in big ints.
func bigParts(op int, a, b [2]int) (re, im *big.Int) {
	ar, ai, br, bi := great(a[0]), great(a[1]), great(b[0]), great(b[1])
	re, im = new(big.Int), new(big.Int)
	switch op {
	case api.OpAdd:
		return re.Add(ar, br), im.Add(ai, bi)
	case api.OpSub:
		return re.Sub(ar, br), im.Sub(ai, bi)
	}
	x, y := new(big.Int), new(big.Int)
	re.Sub(re.Mul(ar, br), x.Mul(ai, bi))
	im.Add(im.Mul(ar, bi), y.Mul(ai, br))
	return re, im
}

// plane are complex numbers: small ones, ones at the bounds, ones whose products are beyond what a float holds whole.
func plane() [][2]int {
	var l [][2]int
	line := []int{-part, -part + 1, -part + 2, -3, -1, 0, 1, 2, 4, 32767, 32768, 1<<27 + 1, part - 2, part - 1, part}
	for _, re := range line {
		for _, im := range line {
			l = append(l, [2]int{re, im})
		}
	}
	return l
}

// expectParts says that an answer is a complex number of big parts, or ErrRange.
func expectParts(t *testing.T, what any, got api.Term, e api.Errno, re, im *big.Int) {
	t.Helper()
	want, f := api.Term{}, api.ErrRange
	x, ok := within(re, -part, part)
	y, both := within(im, -part, part)
	if ok && both {
		want, f = num(x, y), api.OK
	}
	expect(t, what, got, e, want, f)
}

func TestTe3OfAllComplexNumbers(t *testing.T) {
	for _, op := range []int{api.OpAdd, api.OpSub, api.OpMul} {
		for _, a := range plane() {
			for _, b := range plane() {
				got, e := term.Binary(op, num(a[0], a[1]), num(b[0], b[1]))
				re, im := bigParts(op, a, b)
				expectParts(t, []any{op, a, b}, got, e, re, im)
			}
		}
	}
}

func TestTe3OfIntsAndComplexNumbers(t *testing.T) {
	for _, op := range []int{api.OpAdd, api.OpSub, api.OpMul} {
		for _, n := range edges() {
			for _, c := range plane() {
				ahead, e := term.Binary(op, in(n), num(c[0], c[1]))
				behind, f := term.Binary(op, num(c[0], c[1]), in(n))
				if n < -part || n > part {
					expect(t, []any{op, n, c}, ahead, e, api.Term{}, api.ErrRange)
					expect(t, []any{op, c, n}, behind, f, api.Term{}, api.ErrRange)
					continue
				}
				re, im := bigParts(op, [2]int{n, 0}, c)
				expectParts(t, []any{op, n, c}, ahead, e, re, im)
				re, im = bigParts(op, c, [2]int{n, 0})
				expectParts(t, []any{op, c, n}, behind, f, re, im)
			}
		}
	}
}

func TestTe3ComplexByHand(t *testing.T) {
	for _, x := range []struct {
		op         int
		a, b, want api.Term
		e          api.Errno
	}{
		{api.OpMul, num(1, 2), num(3, 4), num(-5, 10), api.OK},
		{api.OpMul, num(3, -4), num(3, 4), num(25, 0), api.OK},
		{api.OpAdd, num(1, 2), num(3, -2), num(4, 0), api.OK},
		{api.OpSub, num(1, 2), num(1, 2), num(0, 0), api.OK},
		{api.OpSub, in(1), num(0, 2), num(1, -2), api.OK},
		{api.OpSub, num(0, 2), in(1), num(-1, 2), api.OK},
		{api.OpMul, in(0), num(-7, -7), num(0, 0), api.OK},
		{api.OpMul, num(0, 0), num(-7, -7), num(0, 0), api.OK},
		{api.OpMul, in(-1), num(0, 7), num(0, -7), api.OK},
		{api.OpAdd, in(part), num(1, 0), api.Term{}, api.ErrRange},
		{api.OpAdd, in(part), num(0, 0), num(part, 0), api.OK},
		{api.OpAdd, in(part + 1), num(-1, 0), api.Term{}, api.ErrRange},
		{api.OpMul, in(part + 1), num(0, 0), api.Term{}, api.ErrRange},
		{api.OpMul, num(0, 0), in(api.MinInt), api.Term{}, api.ErrRange},
		{api.OpSub, num(0, -part), num(0, 1), api.Term{}, api.ErrRange},
		{api.OpMul, num(part, part), num(1, 1), api.Term{}, api.ErrRange},
		{api.OpMul, num(32768, 0), num(0, 32768), num(0, part), api.OK},
		// One part is small, the difference of two numbers that no float holds whole; the other one is beyond.
		{api.OpMul, num(part-1, 1), num(1, part-1), api.Term{}, api.ErrRange},
		{api.OpMul, num(part-1, part-2), num(part-1, part), api.Term{}, api.ErrRange},
		{api.OpTurn, num(3, 4), in(0), num(3, 4), api.OK},
		{api.OpTurn, num(3, 4), in(1), num(-4, 3), api.OK},
		{api.OpTurn, num(3, 4), in(-1), num(4, -3), api.OK},
		{api.OpTurn, in(2), in(2), num(-2, 0), api.OK},
		{api.OpTurn, in(2), in(0), num(2, 0), api.OK},
		{api.OpTurn, in(0), in(3), num(0, 0), api.OK},
		{api.OpTurn, in(part), in(1), num(0, part), api.OK},
		{api.OpTurn, in(part + 1), in(0), api.Term{}, api.ErrRange},
		{api.OpTurn, in(-part - 1), in(4), api.Term{}, api.ErrRange},
		{api.OpTurn, in(part + 1), num(1, 0), api.Term{}, api.ErrKind},
		{api.OpDiv, num(1, 0), in(0), api.Term{}, api.ErrKind},
		{api.OpRem, in(1), num(0, 0), api.Term{}, api.ErrKind},
		{api.OpAdd, in(api.MaxInt), atom("a"), api.Term{}, api.ErrKind},
		{api.OpMul, atom("a"), in(api.MaxInt), api.Term{}, api.ErrKind},
	} {
		got, e := term.Binary(x.op, x.a, x.b)
		expect(t, []any{x.op, x.a, x.b}, got, e, x.want, x.e)
	}
}

// Products whose parts are just within their bounds, and just beyond.
func TestTe3ProductsAtTheBounds(t *testing.T) {
	var l [][2]int
	for near := 32766; near <= 32770; near++ {
		for by := -2; by <= 2; by++ {
			l = append(l, [2]int{near, by}, [2]int{-near, by}, [2]int{by, near}, [2]int{by, -near})
		}
	}
	taken, refused := 0, 0
	for _, a := range l {
		for _, b := range l {
			got, e := term.Binary(api.OpMul, num(a[0], a[1]), num(b[0], b[1]))
			re, im := bigParts(api.OpMul, a, b)
			expectParts(t, [][2]int{a, b}, got, e, re, im)
			if e == api.OK {
				taken++
			} else {
				refused++
			}
		}
	}
	if taken == 0 || refused == 0 {
		t.Error(taken, refused)
	}
}

func TestTe3Turn(t *testing.T) {
	turned := func(re, im, by int) (int, int) {
		by %= 4
		if by < 0 {
			by += 4
		}
		for ; by > 0; by-- {
			re, im = -im, re
		}
		return re, im
	}
	turns := []int{-9, -8, -7, -6, -5, -4, -3, -2, -1, 0, 1, 2, 3, 4, 5, 6, 7, 8, 9}
	for _, by := range append(turns, edges()...) {
		for _, c := range plane() {
			re, im := turned(c[0], c[1], by)
			got, e := term.Binary(api.OpTurn, num(c[0], c[1]), in(by))
			expect(t, []any{c, by}, got, e, num(re, im), api.OK)
		}
		for _, n := range edges() {
			got, e := term.Binary(api.OpTurn, in(n), in(by))
			if n < -part || n > part {
				expect(t, []any{n, by}, got, e, api.Term{}, api.ErrRange)
				continue
			}
			re, im := turned(n, 0, by)
			expect(t, []any{n, by}, got, e, num(re, im), api.OK)
		}
	}
}

func TestTe4Complex(t *testing.T) {
	line := append(edges(), least, most, least+1, 0)
	for _, re := range line {
		for _, im := range line {
			got, e := term.Complex(re, im)
			expectParts(t, []int{re, im}, got, e, great(re), great(im))
			if e == api.OK && term.Check(got) != api.OK {
				t.Errorf("Complex(%d, %d) may not be", re, im)
			}
		}
	}
}

// quarter says by the words of the chapter where a number lies.
func quarter(re, im int) int {
	switch {
	case re > 0 && im >= 0:
		return 0
	case re <= 0 && im > 0:
		return 1
	case re < 0 && im <= 0:
		return 2
	case re >= 0 && im < 0:
		return 3
	}
	return -1
}

func TestTe4Polar(t *testing.T) {
	for _, x := range []struct {
		a       api.Term
		quarter int
		square  int
		e       api.Errno
	}{
		{a: num(-4, 3), quarter: 1, square: 25},
		{a: num(1, 0), quarter: 0, square: 1},
		{a: num(0, 1), quarter: 1, square: 1},
		{a: num(-1, 0), quarter: 2, square: 1},
		{a: num(0, -1), quarter: 3, square: 1},
		{a: num(2, 3), quarter: 0, square: 13},
		{a: num(-2, -3), quarter: 2, square: 13},
		{a: num(2, -3), quarter: 3, square: 13},
		{a: num(part, part), quarter: 0, square: 1 << 61},
		{a: num(-part, -part), quarter: 2, square: 1 << 61},
		{a: num(part, -part+1), quarter: 3, square: 1<<61 - 1<<31 + 1},
		{a: num(part-1, part-1), quarter: 0, square: 1<<61 - 1<<32 + 2},
		{a: in(5), quarter: 0, square: 25},
		{a: in(-5), quarter: 2, square: 25},
		{a: in(part), quarter: 0, square: 1 << 60},
		{a: in(1 - part), quarter: 2, square: 1<<60 - 1<<31 + 1},
		{a: in(part + 1), e: api.ErrRange},
		{a: in(-part - 1), e: api.ErrRange},
		{a: in(api.MaxInt), e: api.ErrRange},
		{a: in(0), e: api.ErrZero},
		{a: num(0, 0), e: api.ErrZero},
	} {
		if q, s, e := term.Polar(x.a); q != x.quarter || s != x.square || e != x.e {
			t.Errorf("Polar(%v): %d, %d, %d, not %d, %d, %d", x.a, q, s, e, x.quarter, x.square, x.e)
		}
	}
	for _, c := range plane() {
		if c == [2]int{} {
			continue
		}
		if q, s, e := term.Polar(num(c[0], c[1])); q != quarter(c[0], c[1]) || s != c[0]*c[0]+c[1]*c[1] || e != api.OK {
			t.Errorf("Polar(%v): %d, %d, %d", c, q, s, e)
		}
	}
}

func TestTe4PolarRefused(t *testing.T) {
	for _, a := range samples() {
		if number(a.Kind) {
			continue
		}
		if q, s, e := term.Polar(a); q != 0 || s != 0 || e != api.ErrKind {
			t.Errorf("Polar(%v): %d, %d, %d", a, q, s, e)
		}
	}
	for name, x := range wrongs() {
		if q, s, e := term.Polar(x.t); q != 0 || s != 0 || e != x.e {
			t.Errorf("Polar of %s: %d, %d, %d", name, q, s, e)
		}
	}
}

// Each call ends at all arguments, also at terms of wild fields.
func TestR1WildArguments(t *testing.T) {
	wild := []api.Term{{}, {Kind: least}, {Kind: most}, endless(api.KindList), endless(api.KindTuple), in(least), in(most), ref(least), pid(least, most), {Kind: api.KindComplex, C: complex(1e308, -1e308)}}
	wild = append(wild, samples()...)
	ops := slices.Concat(unaries(), binaries(), others(nil))
	for _, a := range wild {
		for _, op := range ops {
			term.Unary(op, a)
			for _, b := range wild {
				term.Binary(op, a, b)
			}
			term.Make(op, []api.Term{a, a})
		}
		term.Parts(a)
		term.Polar(a)
	}
}
