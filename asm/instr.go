package asm

import (
	"strconv"
	"strings"

	"carousel/api"
	"carousel/code"
	"carousel/pattern"
	"carousel/text"
)

// shape is what an instruction's text has behind its operation's name.
type shape struct{ term, kind, a, b, arms bool }

func shapeOf(op int) shape {
	switch op {
	case api.OpPush:
		return shape{term: true}
	case api.OpKind:
		return shape{kind: true}
	case api.OpDup, api.OpLoad, api.OpStore, api.OpTuple, api.OpList, api.OpJump, api.OpIf, api.OpCall:
		return shape{a: true}
	case api.OpSpawn:
		return shape{a: true, b: true}
	case api.OpMatch:
		return shape{a: true, arms: true}
	case api.OpRecv:
		return shape{a: true, b: true, arms: true}
	}
	return shape{}
}

// Instr is an instruction's text.
func Instr(i api.Instr) (string, api.Errno) {
	if !mayBe(i) {
		return "", api.ErrCode
	}
	s, e := instrText(i)
	if e != api.OK || len(s) > api.MaxText {
		return "", api.ErrLong
	}
	return s, api.OK
}

// mayBe tells whether an instruction may be by itself.
func mayBe(i api.Instr) bool {
	_, none := code.Op(i.Op)
	has := shapeOf(i.Op)
	a, b, t, arms := i.A == 0, i.B == 0, isZero(i.Term), len(i.Arms) == 0
	if has.term {
		t = isTerm(i.Term)
	}
	if has.kind {
		a = isKind(i.A)
	}
	if has.a {
		a = isNumber(i.A)
	}
	if has.b {
		b = isNumber(i.B)
	}
	if has.arms {
		arms = areArms(i.Arms)
	}
	return none == api.OK && a && b && t && arms
}

func isZero(t api.Term) bool {
	return t.Kind == 0 && t.N == 0 && t.C == 0 && t.S == "" && t.P == api.Pid{} && len(t.L) == 0
}

func isTerm(t api.Term) bool {
	_, e := text.Print(t)
	return e == api.OK
}

func isKind(n int) bool {
	_, e := text.Kind(n)
	return e == api.OK
}

// isNumber tells whether a number may stand in an instruction, whatever its module is.
func isNumber(n int) bool { return n >= -1 && n <= api.MaxTicks }

func areArms(arms []api.Arm) bool {
	if len(arms) > api.MaxArms {
		return false
	}
	for _, arm := range arms {
		if !isNumber(arm.To) || pattern.Check(arm.Pattern, api.MaxLocals) != api.OK {
			return false
		}
	}
	return true
}

// instrText is the text of an instruction that may be: what may still be refused of it is a text that is too long.
func instrText(i api.Instr) (string, api.Errno) {
	has := shapeOf(i.Op)
	name, e := code.Op(i.Op)
	words := []string{name}
	add := func(word string, refused api.Errno) {
		words = append(words, word)
		e = max(e, refused)
	}
	if has.term {
		add(text.Print(i.Term))
	}
	if has.kind {
		add(text.Kind(i.A))
	}
	if has.a {
		add(strconv.Itoa(i.A), api.OK)
	}
	if has.b {
		add(strconv.Itoa(i.B), api.OK)
	}
	for _, arm := range i.Arms {
		add("?", api.OK)
		add(pattern.Print(arm.Pattern))
		add("-> "+strconv.Itoa(arm.To), api.OK)
	}
	return strings.Join(words, " "), e
}
