package code

import "carousel/api"

// names are the operations', by their numbers.
var names = [...]string{
	api.OpPush: "push", api.OpPop: "pop", api.OpDup: "dup", api.OpLoad: "load", api.OpStore: "store",
	api.OpAdd: "add", api.OpSub: "sub", api.OpMul: "mul", api.OpDiv: "div", api.OpRem: "rem", api.OpNeg: "neg", api.OpConj: "conj", api.OpTurn: "turn",
	api.OpEq: "eq", api.OpLess: "less", api.OpNot: "not", api.OpKind: "kind",
	api.OpTuple: "tuple", api.OpList: "list", api.OpElem: "elem", api.OpSize: "size", api.OpCons: "cons", api.OpHead: "head", api.OpTail: "tail",
	api.OpJump: "jump", api.OpIf: "if", api.OpMatch: "match", api.OpCall: "call", api.OpRet: "ret",
	api.OpSelf: "self", api.OpNow: "now", api.OpSend: "send", api.OpRecv: "recv", api.OpSpawn: "spawn", api.OpTimer: "timer", api.OpCancel: "cancel",
	api.OpLink: "link", api.OpUnlink: "unlink", api.OpMonitor: "monitor", api.OpDemon: "demon", api.OpTrap: "trap",
	api.OpName: "name", api.OpWhere: "where", api.OpOut: "out", api.OpExit: "exit", api.OpYield: "yield",
}

// Op is an operation's name.
func Op(n int) (string, api.Errno) {
	if !isOp(n) {
		return "", api.ErrNone
	}
	return names[n], api.OK
}

// OpOf is the operation of a name.
func OpOf(s string) (int, api.Errno) {
	for op := api.OpPush; op <= api.OpYield; op++ {
		if names[op] == s {
			return op, api.OK
		}
	}
	return 0, api.ErrNone
}

func isOp(n int) bool { return isWithin(n, api.OpPush, api.OpYield) }

// Cost is an instruction's, in reductions.
func Cost(i api.Instr) (int, api.Errno) {
	if !isOp(i.Op) {
		return 0, api.ErrCode
	}
	switch i.Op {
	case api.OpSpawn:
		return 8, api.OK
	case api.OpSend:
		return 4, api.OK
	case api.OpTuple, api.OpList, api.OpMatch, api.OpCall, api.OpRecv, api.OpTimer, api.OpCancel,
		api.OpLink, api.OpUnlink, api.OpMonitor, api.OpDemon, api.OpName, api.OpWhere, api.OpOut:
		return 2, api.OK
	}
	return 1, api.OK
}

// Effect is how many terms an instruction takes and leaves.
func Effect(m api.Module, i api.Instr) (takes, leaves int, e api.Errno) {
	if !isOp(i.Op) {
		return 0, 0, api.ErrCode
	}
	switch i.Op {
	case api.OpDup, api.OpTuple, api.OpList:
		if !isWithin(i.A, 0, api.MaxStack) {
			return 0, 0, api.ErrCode
		}
		if i.Op == api.OpDup {
			return i.A + 1, i.A + 2, api.OK
		}
		return i.A, 1, api.OK
	case api.OpCall, api.OpSpawn:
		if !hasFunc(m, i.A) || m.Funcs[i.A].Params < 0 {
			return 0, 0, api.ErrCode
		}
		return m.Funcs[i.A].Params, 1, api.OK
	}
	takes, leaves = plainEffect(i.Op)
	return takes, leaves, api.OK
}

// plainEffect is Effect of the operations whose fields change nothing of it.
func plainEffect(op int) (takes, leaves int) {
	switch op {
	case api.OpJump, api.OpRecv, api.OpYield:
		return 0, 0
	case api.OpPush, api.OpLoad, api.OpSelf, api.OpNow:
		return 0, 1
	case api.OpPop, api.OpStore, api.OpIf, api.OpMatch, api.OpRet, api.OpTrap, api.OpOut, api.OpExit:
		return 1, 0
	case api.OpNeg, api.OpConj, api.OpNot, api.OpKind, api.OpSize, api.OpHead, api.OpTail, api.OpCancel,
		api.OpLink, api.OpUnlink, api.OpMonitor, api.OpDemon, api.OpName, api.OpWhere:
		return 1, 1
	}
	return 2, 1
}
