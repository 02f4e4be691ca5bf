package asm

import (
	"strings"

	"carousel/api"
	"carousel/code"
	"carousel/pattern"
	"carousel/text"
)

// InstrOf is the instruction of a text.
func InstrOf(s string) (api.Instr, api.Errno) {
	if len(s) > api.MaxText {
		return api.Instr{}, api.ErrLong
	}
	if i, ok := read(s); ok && span(s, isNoNewline) == len(s) {
		return i, api.OK
	}
	return api.Instr{}, api.ErrAsm
}

// read is the instruction of a text; false, if it is none that may be by itself.
func read(s string) (api.Instr, bool) {
	next, rest := words(s)
	op, e := code.OpOf(next())
	if e != api.OK {
		return api.Instr{}, false
	}
	i, has, ok := api.Instr{Op: op}, shapeOf(op), true
	take := func(meant func(word string) (int, bool)) int {
		n, is := meant(next())
		ok = ok && is
		return n
	}
	if has.kind {
		i.A = take(kind)
	}
	if has.a {
		i.A = take(operand)
	}
	if has.b {
		i.B = take(operand)
	}
	switch {
	case !ok:
		return api.Instr{}, false
	case has.term:
		i.Term, e, _ = text.Parse(rest())
		ok = e == api.OK
	case has.arms:
		i.Arms, ok = armsOf(rest())
	default:
		ok = next() == ""
	}
	return i, ok
}

func kind(word string) (int, bool) {
	n, e := text.KindOf(word)
	return n, e == api.OK
}

// operand is a number that may stand in an instruction.
func operand(word string) (int, bool) {
	n, ok := number(word)
	return n, ok && isNumber(n)
}

// number is a number as it is written everywhere: layer 4 reads it, with blanks about it.
func number(word string) (int, bool) {
	t, e, _ := text.Parse(word)
	return t.N, e == api.OK && t.Kind == api.KindInt
}

// armsOf are the arms of a text, if it has nothing else.
func armsOf(s string) ([]api.Arm, bool) {
	var arms []api.Arm
	ahead, s, more := strings.Cut(s, "?")
	ok := span(ahead, isBlank) == len(ahead)
	for ok && more {
		var own string
		var arm api.Arm
		own, s, more = strings.Cut(s, "?")
		arm, ok = armOf(own)
		arms = append(arms, arm)
		ok = ok && len(arms) <= api.MaxArms
	}
	return arms, ok
}

func armOf(s string) (api.Arm, bool) {
	matched, to, _ := strings.Cut(s, "->")
	p, e, _ := pattern.Parse(matched)
	n, ok := operand(to)
	return api.Arm{Pattern: p, To: n}, ok && e == api.OK
}
