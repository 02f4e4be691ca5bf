package sign

import (
	"carousel/api"
	"carousel/term"
)

// Exit is the message of an exit.
func Exit(p api.Pid, reason api.Term) api.Term {
	return message(reason, atom("exit"), pidTerm(p))
}

// Down is the message of a monitor.
func Down(ref int, p api.Pid, reason api.Term) api.Term {
	return message(reason, atom("down"), api.Term{Kind: api.KindRef, N: ref}, pidTerm(p))
}

// message is a tuple of some plain terms and a reason behind them.
func message(reason api.Term, plain ...api.Term) api.Term {
	if !fits(reason, len(plain)) {
		reason = atom("toobig")
	}
	l := make([]api.Term, 0, len(plain)+1)
	return api.Term{Kind: api.KindTuple, L: append(append(l, plain...), reason)}
}

// fits tells whether a reason has room in a tuple behind so many plain terms. What may not be for something else than its parts stands there as it is: how great it is can't be told.
func fits(reason api.Term, plain int) bool {
	parts, deep, e := term.Parts(reason)
	return e != api.ErrParts && 1+plain+parts <= api.MaxParts && 1+deep <= api.MaxDeep
}

func atom(name string) api.Term { return api.Term{Kind: api.KindAtom, S: name} }

func pidTerm(p api.Pid) api.Term { return api.Term{Kind: api.KindPid, P: p} }
