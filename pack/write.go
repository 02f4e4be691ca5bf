package pack

import "carousel/api"

// addCount puts a count behind bytes: all that follow do likewise with what they are named for.
func addCount(b []byte, n int) []byte {
	for ; n > 127; n >>= 7 {
		b = append(b, byte(n)|128)
	}
	return append(b, byte(n))
}

func addNumber(b []byte, n int) []byte {
	if n < 0 {
		return addCount(b, -2*n-1)
	}
	return addCount(b, 2*n)
}

func addName(b []byte, s string) []byte { return append(addCount(b, len(s)), s...) }

func addTerm(b []byte, t api.Term) []byte {
	b = addCount(b, t.Kind)
	switch t.Kind {
	case api.KindBool, api.KindRef:
		return addCount(b, t.N)
	case api.KindInt:
		return addNumber(b, t.N)
	case api.KindComplex:
		return addNumber(addNumber(b, int(real(t.C))), int(imag(t.C)))
	case api.KindAtom:
		return addName(b, t.S)
	case api.KindPid:
		return addCount(addCount(b, t.P.N), t.P.Gen)
	case api.KindTuple, api.KindList:
		return addAll(b, t.L, addTerm)
	}
	return b
}

func addPattern(b []byte, p api.Pattern) []byte {
	b = addCount(b, p.Kind)
	switch p.Kind {
	case api.PatVar, api.PatKind:
		return addCount(b, p.N)
	case api.PatTerm:
		return addTerm(b, p.Term)
	case api.PatTuple:
		return addAll(b, p.L, addPattern)
	case api.PatList:
		return addAll(addAll(b, p.L, addPattern), p.Rest, addPattern)
	}
	return b
}

func addInstr(b []byte, i api.Instr) []byte {
	b = addCount(b, i.Op)
	for _, field := range fieldsOf(i.Op) {
		switch field {
		case fieldTerm:
			b = addTerm(b, i.Term)
		case fieldA:
			b = addCount(b, i.A)
		case fieldB:
			b = addCount(b, i.B)
		case fieldTicks:
			b = addNumber(b, i.B)
		case fieldArms:
			b = addAll(b, i.Arms, addArm)
		}
	}
	return b
}

func addArm(b []byte, a api.Arm) []byte { return addCount(addPattern(b, a.Pattern), a.To) }

// addFront is a function's, up to its instructions.
func addFront(b []byte, f api.Func) []byte {
	b = addName(b, f.Name)
	b = addCount(b, f.Params)
	b = addCount(b, f.Locals)
	return addCount(b, len(f.Code))
}

// addAll is how many there are, and then they.
func addAll[T any](b []byte, l []T, add func(b []byte, x T) []byte) []byte {
	b = addCount(b, len(l))
	for _, x := range l {
		b = add(b, x)
	}
	return b
}
