package step

import (
	"slices"

	"carousel/api"
	"carousel/pattern"
	"carousel/term"
)

// way is how an operation is done.
type way struct {
	does  func(*deed) api.Errno // it changes nothing of the stack, if it is refused
	asks  int                   // what it asks of the world; 0: nothing, or as it finds
	wants int                   // the kind that its last term must be of; 0: whatever
}

// wayOf is an operation's.
func wayOf(op int) way {
	ways := [...]way{
		api.OpPush: {does: (*deed).push}, api.OpPop: {does: (*deed).behind}, api.OpDup: {does: (*deed).dup},
		api.OpLoad: {does: (*deed).load}, api.OpStore: {does: (*deed).store},
		api.OpAdd: {does: binary}, api.OpSub: {does: binary}, api.OpMul: {does: binary}, api.OpDiv: {does: binary}, api.OpRem: {does: binary},
		api.OpNeg: {does: unary}, api.OpConj: {does: unary}, api.OpTurn: {does: binary},
		api.OpEq: {does: binary}, api.OpLess: {does: binary}, api.OpNot: {does: unary}, api.OpKind: {does: (*deed).kind},
		api.OpTuple: {does: (*deed).tuple}, api.OpList: {does: (*deed).list},
		api.OpElem: {does: binary}, api.OpSize: {does: unary}, api.OpCons: {does: binary}, api.OpHead: {does: unary}, api.OpTail: {does: unary},
		api.OpJump: {does: (*deed).jump}, api.OpIf: {does: (*deed).fork, wants: api.KindBool}, api.OpMatch: {does: (*deed).match},
		api.OpCall: {does: (*deed).call}, api.OpRet: {does: (*deed).ret},
		api.OpSelf: {does: (*deed).behind, asks: api.AskSelf}, api.OpNow: {does: (*deed).behind, asks: api.AskNow},
		api.OpSend: {does: (*deed).send, asks: api.AskSend}, api.OpRecv: {does: (*deed).recv, asks: api.AskRecv},
		api.OpSpawn: {does: (*deed).spawn, asks: api.AskSpawn}, api.OpTimer: {does: (*deed).timer, asks: api.AskTimer},
		api.OpCancel:  {does: (*deed).askTo, asks: api.AskCancel, wants: api.KindRef},
		api.OpLink:    {does: (*deed).askTo, asks: api.AskLink, wants: api.KindPid},
		api.OpUnlink:  {does: (*deed).askTo, asks: api.AskUnlink, wants: api.KindPid},
		api.OpMonitor: {does: (*deed).askTo, asks: api.AskMonitor, wants: api.KindPid},
		api.OpDemon:   {does: (*deed).askTo, asks: api.AskDemon, wants: api.KindRef},
		api.OpTrap:    {does: (*deed).askOf, asks: api.AskTrap, wants: api.KindBool},
		api.OpName:    {does: (*deed).askOf, asks: api.AskName, wants: api.KindAtom},
		api.OpWhere:   {does: (*deed).askOf, asks: api.AskWhere, wants: api.KindAtom},
		api.OpOut:     {does: (*deed).askOf, asks: api.AskOut},
		api.OpExit:    {does: (*deed).exit, asks: api.AskExit}, api.OpYield: {does: (*deed).behind, asks: api.AskYield},
	}
	return ways[op]
}

func unary(d *deed) api.Errno { return d.leave(term.Unary(d.i.Op, d.y())) }

func binary(d *deed) api.Errno { return d.leave(term.Binary(d.i.Op, d.x(), d.y())) }

func (d *deed) push() api.Errno { return d.leave(d.i.Term, term.Check(d.i.Term)) }

func (d *deed) dup() api.Errno {
	t := d.term(d.i.A)
	d.takes = 0 // all that it takes stands there again behind it
	return d.on(d.at+1, t)
}

func (d *deed) load() api.Errno { return d.leave(d.s.Local(d.i.A)) }

func (d *deed) store() api.Errno {
	return d.bindOn([]api.Bind{{Local: d.i.A, Term: d.y()}}, d.at+1)
}

func (d *deed) kind() api.Errno {
	is := api.Term{Kind: api.KindBool}
	if d.y().Kind == d.i.A {
		is.N = 1
	}
	return d.on(d.at+1, is)
}

func (d *deed) tuple() api.Errno { return d.leave(term.Make(api.KindTuple, d.terms())) }

func (d *deed) list() api.Errno { return d.leave(term.Make(api.KindList, d.terms())) }

func (d *deed) jump() api.Errno { return d.on(d.i.A) }

func (d *deed) fork() api.Errno {
	if d.y().N == 1 {
		return d.on(d.i.A)
	}
	return d.behind()
}

func (d *deed) match() api.Errno {
	for _, arm := range d.i.Arms {
		binds, ok, e := pattern.Match(arm.Pattern, d.y())
		if e != api.OK {
			return e
		}
		if ok {
			return d.bindOn(binds, arm.To)
		}
	}
	return d.on(d.i.A)
}

// call begins a call. Where it goes on when that ends is set first: behind Enter another frame is the last one.
func (d *deed) call() api.Errno {
	f, s := d.m.Funcs[d.i.A], d.s
	on := d.goTo(d.at + 1)
	if on != api.OK {
		s = s.Copy() // the call must not begin, but what Enter refuses is told ahead of that
	}
	if e := s.Enter(d.i.A, f.Params, f.Locals); e != api.OK {
		d.s.Go(d.at)
		return e
	}
	return on
}

func (d *deed) ret() api.Errno {
	if d.s.Depth() == 1 {
		d.ask = api.Ask{Kind: api.AskExit, Term: Reason(api.OK), Args: d.terms()}
	}
	return d.s.Leave()
}

func (d *deed) send() api.Errno {
	to := d.x()
	if to.Kind != api.KindPid && to.Kind != api.KindAtom {
		return api.ErrKind
	}
	d.ask.To, d.ask.Term = to, d.y()
	return d.behind()
}

// recv stays where it is: whether there is a message the world tells.
func (d *deed) recv() api.Errno {
	d.ask.Arms, d.ask.Wait = slices.Clone(d.i.Arms), d.i.B
	return api.OK
}

func (d *deed) spawn() api.Errno {
	d.ask.Func, d.ask.Class, d.ask.Args = d.i.A, d.i.B, d.terms()
	return d.behind()
}

func (d *deed) timer() api.Errno {
	ticks := d.x()
	if ticks.Kind != api.KindInt {
		return api.ErrKind
	}
	if !isWithin(ticks.N, 0, api.MaxTicks) {
		return api.ErrRange
	}
	d.ask.Wait, d.ask.Term = ticks.N, d.y()
	return d.behind()
}

// askTo asks something of somebody, or of what has a ref.
func (d *deed) askTo() api.Errno {
	d.ask.To = d.y()
	return d.behind()
}

// askOf asks something of a term.
func (d *deed) askOf() api.Errno {
	d.ask.Term = d.y()
	return d.behind()
}

func (d *deed) exit() api.Errno {
	d.ask.Term = d.y()
	d.drop()
	return api.OK
}
