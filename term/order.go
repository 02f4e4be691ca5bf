package term

import (
	"cmp"
	"slices"

	"carousel/api"
)

// Compare is how two terms stand: -1, 0, 1.
func Compare(a, b api.Term) (int, api.Errno) {
	if e := checkBoth(a, b); e != api.OK {
		return 0, e
	}
	return order(a, b), api.OK
}

func checkBoth(a, b api.Term) api.Errno {
	if e := Check(a); e != api.OK {
		return e
	}
	return Check(b)
}

// order is how two terms that may be stand.
func order(a, b api.Term) int {
	if a.Kind != b.Kind {
		return cmp.Compare(a.Kind, b.Kind)
	}
	switch a.Kind {
	case api.KindComplex:
		return cmp.Or(cmp.Compare(real(a.C), real(b.C)), cmp.Compare(imag(a.C), imag(b.C)))
	case api.KindAtom:
		return cmp.Compare(a.S, b.S)
	case api.KindPid:
		return cmp.Or(cmp.Compare(a.P.N, b.P.N), cmp.Compare(a.P.Gen, b.P.Gen))
	case api.KindTuple, api.KindList:
		return slices.CompareFunc(a.L, b.L, order)
	}
	return cmp.Compare(a.N, b.N)
}
