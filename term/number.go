package term

import "carousel/api"

// Complex is a number with two parts.
func Complex(re, im int) (api.Term, api.Errno) {
	if !isBounded(re) || !isBounded(im) {
		return api.Term{}, api.ErrRange
	}
	return api.Term{Kind: api.KindComplex, C: complex(float64(re), float64(im))}, api.OK
}

func isBounded(part int) bool { return part >= -api.MaxPart && part <= api.MaxPart }

// complexOf is a complex number as a term. By way of ints its noughts lose the sign that a float's can have.
func complexOf(c complex128) (api.Term, api.Errno) { return Complex(partsOf(c)) }

func partsOf(c complex128) (re, im int) { return int(real(c)), int(imag(c)) }

// Polar tells in which quarter a number lies, and its square length.
func Polar(a api.Term) (quarter, square int, e api.Errno) {
	if e = Check(a); e != api.OK {
		return 0, 0, e
	}
	c, e := asComplex(a)
	if e != api.OK {
		return 0, 0, e
	}
	if c == 0 {
		return 0, 0, api.ErrZero
	}
	// Squares are worked out as ints: floats would round those beyond 2^53.
	re, im := partsOf(c)
	return quarterOf(re, im), re*re + im*im, api.OK
}

// quarterOf is where a number that is not 0 lies.
func quarterOf(re, im int) int {
	switch {
	case re > 0 && im >= 0:
		return 0
	case re <= 0 && im > 0:
		return 1
	case re < 0:
		return 2
	}
	return 3
}

// asComplex is a term that may be as a complex number, if it is a number.
func asComplex(a api.Term) (complex128, api.Errno) {
	switch {
	case a.Kind == api.KindComplex:
		return a.C, api.OK
	case a.Kind != api.KindInt:
		return 0, api.ErrKind
	case !isBounded(a.N):
		return 0, api.ErrRange
	}
	return complex(float64(a.N), 0), api.OK
}

func isNumber(a api.Term) bool { return a.Kind == api.KindInt || a.Kind == api.KindComplex }

// reckon adds, subtracts and multiplies.
func reckon(op int, a, b api.Term) (api.Term, api.Errno) {
	if !isNumber(a) || !isNumber(b) {
		return api.Term{}, api.ErrKind
	}
	if a.Kind == api.KindInt && b.Kind == api.KindInt {
		return reckonInts(op, a.N, b.N)
	}
	x, e := asComplex(a)
	if e != api.OK {
		return api.Term{}, e
	}
	y, e := asComplex(b)
	if e != api.OK {
		return api.Term{}, e
	}
	return reckonComplex(op, x, y)
}

func reckonInts(op, a, b int) (api.Term, api.Errno) {
	switch op {
	case api.OpAdd:
		return intOf(a + b)
	case api.OpSub:
		return intOf(a - b)
	}
	// A great product would wrap round: it is told ahead of being made.
	if a != 0 && size(b) > api.MaxInt/size(a) {
		return api.Term{}, api.ErrRange
	}
	return intOf(a * b)
}

// intOf is an int as a term. Sums of two ints that may be do not wrap round, so that they are seen here.
func intOf(n int) (api.Term, api.Errno) {
	if !isInt(n) {
		return api.Term{}, api.ErrRange
	}
	return api.Term{Kind: api.KindInt, N: n}, api.OK
}

// size is a number without its sign.
func size(n int) int { return max(n, -n) }

func reckonComplex(op int, a, b complex128) (api.Term, api.Errno) {
	switch op {
	case api.OpAdd:
		return complexOf(a + b)
	case api.OpSub:
		return complexOf(a - b)
	}
	// Floats round only where a product is longer than 2^53: then one of its parts is beyond its bounds, and none is answered.
	return complexOf(a * b)
}

// divide is a quotient, or what it leaves.
func divide(op int, a, b api.Term) (api.Term, api.Errno) {
	if a.Kind != api.KindInt || b.Kind != api.KindInt {
		return api.Term{}, api.ErrKind
	}
	if b.N == 0 {
		return api.Term{}, api.ErrZero
	}
	if op == api.OpDiv {
		return intOf(a.N / b.N)
	}
	return intOf(a.N % b.N)
}

// turn turns a number by quarters.
func turn(a, b api.Term) (api.Term, api.Errno) {
	if b.Kind != api.KindInt {
		return api.Term{}, api.ErrKind
	}
	c, e := asComplex(a)
	if e != api.OK {
		return api.Term{}, e
	}
	// Four quarters are a whole turn; backwards too.
	for range (b.N%4 + 4) % 4 {
		c *= 1i
	}
	return complexOf(c)
}

// negate is a number with the other sign.
func negate(a api.Term) (api.Term, api.Errno) {
	switch a.Kind {
	case api.KindInt:
		return intOf(-a.N)
	case api.KindComplex:
		return complexOf(-a.C)
	}
	return api.Term{}, api.ErrKind
}

// conjugate is a number with the other sign of its other part.
func conjugate(a api.Term) (api.Term, api.Errno) {
	switch a.Kind {
	case api.KindInt:
		return intOf(a.N)
	case api.KindComplex:
		return complexOf(complex(real(a.C), -imag(a.C)))
	}
	return api.Term{}, api.ErrKind
}
