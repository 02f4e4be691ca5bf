package code

import (
	"carousel/api"
	"carousel/pattern"
	"carousel/term"
)

// checkInstrs tells why a function's instructions may not be, and which one.
func checkInstrs(m api.Module, fn int) (e api.Errno, at int) {
	f := m.Funcs[fn]
	for at, i := range f.Code {
		if !instrMayBe(m, f.Locals, i) {
			return api.ErrCode, at
		}
		for _, to := range jumps(i) {
			if !isWithin(to, 0, len(f.Code)-1) {
				return api.ErrJump, at
			}
		}
	}
	return api.OK, 0
}

// instrMayBe tells whether an instruction may be, the places in it aside: each field is zero, but those that its operation names.
func instrMayBe(m api.Module, locals int, i api.Instr) bool {
	a, b, t, arms := i.A == 0, i.B == 0, isZero(i.Term), len(i.Arms) == 0
	switch i.Op {
	case api.OpPush:
		t = term.Check(i.Term) == api.OK
	case api.OpDup:
		a = isWithin(i.A, 0, api.MaxStack-2)
	case api.OpLoad, api.OpStore:
		a = isWithin(i.A, 0, locals-1)
	case api.OpKind:
		a = isWithin(i.A, api.KindNil, api.KindList)
	case api.OpTuple, api.OpList:
		a = isWithin(i.A, 0, api.MaxStack-1)
	case api.OpJump, api.OpIf:
		a = true
	case api.OpMatch:
		a, arms = true, areArms(i.Arms, locals)
	case api.OpCall:
		a = hasFunc(m, i.A)
	case api.OpRecv:
		a, b, arms = a || i.B != -1, isWithin(i.B, -1, api.MaxTicks), areArms(i.Arms, locals)
	case api.OpSpawn:
		a, b = hasFunc(m, i.A), isWithin(i.B, 0, api.Classes-1)
	}
	return isOp(i.Op) && a && b && t && arms
}

func isZero(t api.Term) bool {
	return t.Kind == 0 && t.N == 0 && t.C == 0 && t.S == "" && t.P == api.Pid{} && len(t.L) == 0
}

// areArms tells whether arms may be, the places in them aside.
func areArms(arms []api.Arm, locals int) bool {
	if len(arms) > api.MaxArms {
		return false
	}
	for _, arm := range arms {
		if pattern.Check(arm.Pattern, locals) != api.OK {
			return false
		}
	}
	return true
}

// leads are the places to which an instruction leads, in order.
func leads(i api.Instr, at int) []int {
	switch i.Op {
	case api.OpJump, api.OpMatch, api.OpRecv, api.OpRet, api.OpExit:
		return jumps(i)
	}
	return append([]int{at + 1}, jumps(i)...)
}

// jumps are the places that stand in an instruction, in order.
func jumps(i api.Instr) []int {
	var l []int
	switch i.Op {
	case api.OpJump, api.OpIf, api.OpMatch:
		l = append(l, i.A)
	case api.OpRecv:
		if i.B != -1 {
			l = append(l, i.A)
		}
	}
	for _, arm := range i.Arms {
		l = append(l, arm.To)
	}
	return l
}
