package term

import "carousel/api"

// Unary is what an operation makes of a term.
func Unary(op int, a api.Term) (api.Term, api.Errno) {
	if !isUnary(op) {
		return api.Term{}, api.ErrArg
	}
	if e := Check(a); e != api.OK {
		return api.Term{}, e
	}
	switch op {
	case api.OpNeg:
		return negate(a)
	case api.OpConj:
		return conjugate(a)
	case api.OpNot:
		return not(a)
	case api.OpSize:
		return count(a)
	case api.OpHead:
		return head(a)
	}
	return tail(a)
}

func isUnary(op int) bool {
	switch op {
	case api.OpNeg, api.OpConj, api.OpNot, api.OpSize, api.OpHead, api.OpTail:
		return true
	}
	return false
}

// Binary is what an operation makes of two.
func Binary(op int, a, b api.Term) (api.Term, api.Errno) {
	if !isBinary(op) {
		return api.Term{}, api.ErrArg
	}
	if e := checkBoth(a, b); e != api.OK {
		return api.Term{}, e
	}
	switch op {
	case api.OpAdd, api.OpSub, api.OpMul:
		return reckon(op, a, b)
	case api.OpDiv, api.OpRem:
		return divide(op, a, b)
	case api.OpTurn:
		return turn(a, b)
	case api.OpEq:
		return boolOf(order(a, b) == 0), api.OK
	case api.OpLess:
		return boolOf(order(a, b) < 0), api.OK
	case api.OpElem:
		return elem(a, b)
	}
	return cons(a, b)
}

func isBinary(op int) bool {
	switch op {
	case api.OpAdd, api.OpSub, api.OpMul, api.OpDiv, api.OpRem, api.OpTurn, api.OpEq, api.OpLess, api.OpElem, api.OpCons:
		return true
	}
	return false
}

func boolOf(is bool) api.Term {
	t := api.Term{Kind: api.KindBool}
	if is {
		t.N = 1
	}
	return t
}

func not(a api.Term) (api.Term, api.Errno) {
	if a.Kind != api.KindBool {
		return api.Term{}, api.ErrKind
	}
	return boolOf(a.N == 0), api.OK
}

// count is how many terms a tuple or a list has.
func count(a api.Term) (api.Term, api.Errno) {
	if !holdsTerms(a.Kind) {
		return api.Term{}, api.ErrKind
	}
	return intOf(len(a.L))
}

func head(a api.Term) (api.Term, api.Errno) {
	if a.Kind != api.KindList {
		return api.Term{}, api.ErrKind
	}
	if len(a.L) == 0 {
		return api.Term{}, api.ErrRange
	}
	return a.L[0], api.OK
}

func tail(a api.Term) (api.Term, api.Errno) {
	if a.Kind != api.KindList {
		return api.Term{}, api.ErrKind
	}
	if len(a.L) == 0 {
		return api.Term{}, api.ErrRange
	}
	return api.Term{Kind: api.KindList, L: copied(a.L[1:])}, api.OK
}

// elem is the term of a tuple or a list with so many ahead of it.
func elem(a, b api.Term) (api.Term, api.Errno) {
	if !holdsTerms(a.Kind) || b.Kind != api.KindInt {
		return api.Term{}, api.ErrKind
	}
	if b.N < 0 || b.N >= len(a.L) {
		return api.Term{}, api.ErrRange
	}
	return a.L[b.N], api.OK
}

// cons is a list with a term more ahead.
func cons(a, b api.Term) (api.Term, api.Errno) {
	if b.Kind != api.KindList {
		return api.Term{}, api.ErrKind
	}
	return Make(api.KindList, append([]api.Term{a}, b.L...))
}
