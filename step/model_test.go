package step_test

import (
	"slices"

	"carousel/api"
	"carousel/pattern"
	"carousel/term"
)

// model is a second way to do instructions: each call has its own part of the terms, and what is done is done to a copy, which is thrown away if it is refused.
type model struct {
	calls []modelCall
	first []api.Term // those of no call
}

type modelCall struct {
	fn, at int
	locals []api.Term
	terms  []api.Term
}

func (m *model) copied() *model {
	other := &model{first: slices.Clone(m.first)}
	for _, c := range m.calls {
		c.locals, c.terms = slices.Clone(c.locals), slices.Clone(c.terms)
		other.calls = append(other.calls, c)
	}
	return other
}

func (m *model) call() *modelCall { return &m.calls[len(m.calls)-1] }

func (m *model) view() api.View {
	v := api.View{Terms: slices.Clone(m.first)}
	for _, c := range m.calls {
		v.Frames = append(v.Frames, api.Frame{Func: c.fn, At: c.at, Base: len(v.Terms), Locals: slices.Clone(c.locals)})
		v.Terms = append(v.Terms, c.terms...)
	}
	return v
}

func modelOf(v api.View) *model {
	m := &model{first: slices.Clone(v.Terms)}
	for _, f := range slices.Backward(v.Frames) {
		c := modelCall{f.Func, f.At, slices.Clone(f.Locals), slices.Clone(m.first[f.Base:])}
		m.first = m.first[:f.Base]
		m.calls = append([]modelCall{c}, m.calls...)
	}
	return m
}

// effects are what the operations take, leave and cost. Some take and leave by their fields: these stand with what is added.
var effects = map[int][3]int{
	api.OpPush: {0, 1, 1}, api.OpPop: {1, 0, 1}, api.OpDup: {1, 2, 1}, api.OpLoad: {0, 1, 1}, api.OpStore: {1, 0, 1},
	api.OpAdd: {2, 1, 1}, api.OpSub: {2, 1, 1}, api.OpMul: {2, 1, 1}, api.OpDiv: {2, 1, 1}, api.OpRem: {2, 1, 1}, api.OpTurn: {2, 1, 1}, api.OpEq: {2, 1, 1}, api.OpLess: {2, 1, 1}, api.OpElem: {2, 1, 1}, api.OpCons: {2, 1, 1},
	api.OpNeg: {1, 1, 1}, api.OpConj: {1, 1, 1}, api.OpNot: {1, 1, 1}, api.OpSize: {1, 1, 1}, api.OpHead: {1, 1, 1}, api.OpTail: {1, 1, 1},
	api.OpKind: {1, 1, 1}, api.OpTuple: {0, 1, 2}, api.OpList: {0, 1, 2}, api.OpJump: {0, 0, 1}, api.OpIf: {1, 0, 1}, api.OpMatch: {1, 0, 2}, api.OpCall: {0, 1, 2}, api.OpRet: {1, 0, 1},
	api.OpSelf: {0, 1, 1}, api.OpNow: {0, 1, 1}, api.OpSend: {2, 1, 4}, api.OpRecv: {0, 0, 2}, api.OpSpawn: {0, 1, 8}, api.OpTimer: {2, 1, 2}, api.OpCancel: {1, 1, 2}, api.OpLink: {1, 1, 2}, api.OpUnlink: {1, 1, 2},
	api.OpMonitor: {1, 1, 2}, api.OpDemon: {1, 1, 2}, api.OpTrap: {1, 0, 1}, api.OpName: {1, 1, 2}, api.OpWhere: {1, 1, 2}, api.OpOut: {1, 0, 2}, api.OpExit: {1, 0, 1}, api.OpYield: {0, 0, 1},
}

func modelEffect(m api.Module, i api.Instr) (takes, leaves, cost int, e api.Errno) {
	x, ok := effects[i.Op]
	takes, leaves, cost = x[0], x[1], x[2]
	switch i.Op {
	case api.OpDup:
		takes, leaves = takes+i.A, leaves+i.A
		ok = i.A >= 0 && i.A <= 256
	case api.OpTuple, api.OpList:
		takes = i.A
		ok = i.A >= 0 && i.A <= 256
	case api.OpCall, api.OpSpawn:
		ok = i.A >= 0 && i.A < len(m.Funcs) && m.Funcs[i.A].Params >= 0
		if ok {
			takes = m.Funcs[i.A].Params
		}
	}
	if !ok {
		return 0, 0, 0, api.ErrCode
	}
	return takes, leaves, cost, api.OK
}

// do is Do: the model behind it, if it is not refused, else the one ahead.
func (m *model) do(mod api.Module) (*model, api.Ask, int, api.Errno) {
	n := m.copied()
	ask, cost, e := n.done(mod)
	if e != api.OK {
		return m, api.Ask{}, 0, e
	}
	return n, ask, cost, e
}

// instr is where the last call stands.
func (m *model) instr(mod api.Module) (api.Func, api.Instr, bool) {
	c := m.call()
	if c.fn >= len(mod.Funcs) || c.at >= len(mod.Funcs[c.fn].Code) {
		return api.Func{}, api.Instr{}, false
	}
	return mod.Funcs[c.fn], mod.Funcs[c.fn].Code[c.at], true
}

func (m *model) done(mod api.Module) (api.Ask, int, api.Errno) {
	if len(m.calls) == 0 {
		return api.Ask{}, 0, api.ErrEmpty
	}
	c := m.call()
	f, i, ok := m.instr(mod)
	if !ok {
		return api.Ask{}, 0, api.ErrNone
	}
	takes, leaves, cost, e := modelEffect(mod, i)
	if e != api.OK {
		return api.Ask{}, 0, e
	}
	if takes > len(c.terms) {
		return api.Ask{}, 0, api.ErrEmpty
	}
	if len(m.view().Terms)-takes+leaves > 256 {
		return api.Ask{}, 0, api.ErrHigh
	}
	args := c.terms[len(c.terms)-takes:]
	w := modelWork{m: m, mod: mod, i: i, args: slices.Clone(args), to: c.at + 1, ask: api.Ask{Kind: api.AskNone}}
	c.terms = c.terms[:len(c.terms)-takes]
	if e := w.work(); e != api.OK {
		return api.Ask{}, 0, e
	}
	if !w.stays {
		if w.to < 0 || w.to >= len(f.Code) {
			return api.Ask{}, 0, api.ErrNone
		}
		c.at = w.to
	}
	c.terms = append(c.terms, w.left...)
	if w.begun != nil {
		m.calls = append(m.calls, *w.begun)
	}
	if w.ends {
		m.calls = m.calls[:len(m.calls)-1]
		l := &m.first
		if len(m.calls) > 0 {
			l = &m.call().terms
		}
		*l = append(*l, args[0])
	}
	return w.ask, cost, api.OK
}

// modelWork is an instruction that is worked out: what it leaves, where it goes on.
type modelWork struct {
	m     *model
	mod   api.Module
	i     api.Instr
	args  []api.Term
	left  []api.Term
	to    int
	stays bool
	ends  bool
	begun *modelCall
	ask   api.Ask
}

func (w *modelWork) work() api.Errno {
	c, i, l := w.m.call(), w.i, w.args
	switch i.Op {
	case api.OpPush:
		w.left = []api.Term{i.Term}
		return term.Check(i.Term)
	case api.OpPop, api.OpYield, api.OpSelf, api.OpNow:
	case api.OpDup:
		w.left = append(slices.Clone(l), l[0])
	case api.OpLoad, api.OpStore:
		if i.A < 0 || i.A >= len(c.locals) {
			return api.ErrNone
		}
		if i.Op == api.OpLoad {
			w.left = []api.Term{c.locals[i.A]}
		} else {
			c.locals[i.A] = l[0]
		}
	case api.OpKind:
		w.left = []api.Term{no()}
		if l[0].Kind == i.A {
			w.left = []api.Term{yes()}
		}
	case api.OpTuple, api.OpList:
		t, e := term.Make(api.KindTuple+(i.Op-api.OpTuple), l)
		w.left = []api.Term{t}
		return e
	case api.OpJump:
		w.to = i.A
	case api.OpIf:
		if l[0].Kind != api.KindBool {
			return api.ErrKind
		}
		w.to = []int{w.to, i.A}[l[0].N]
	case api.OpMatch:
		return w.match(c)
	case api.OpCall:
		return w.enter()
	case api.OpRet:
		w.stays, w.ends = true, true
		if len(w.m.calls) == 1 {
			w.ask = api.Ask{Kind: api.AskExit, Term: atom("normal"), Args: l}
		}
		return api.OK
	case api.OpRecv:
		w.stays = true
	case api.OpExit:
		w.stays = true
	default:
		if len(l) == 1 && i.Op <= api.OpTail {
			t, e := term.Unary(i.Op, l[0])
			w.left = []api.Term{t}
			return e
		}
		if i.Op <= api.OpTail {
			t, e := term.Binary(i.Op, l[0], l[1])
			w.left = []api.Term{t}
			return e
		}
	}
	return w.asks()
}

func (w *modelWork) match(c *modelCall) api.Errno {
	w.to = w.i.A
	for _, a := range w.i.Arms {
		binds, ok, e := pattern.Match(a.Pattern, w.args[0])
		if e != api.OK {
			return e
		}
		if !ok {
			continue
		}
		for _, b := range binds {
			if b.Local < 0 || b.Local >= len(c.locals) {
				return api.ErrNone
			}
			c.locals[b.Local] = b.Term
		}
		w.to = a.To
		break
	}
	return api.OK
}

func (w *modelWork) enter() api.Errno {
	f := w.mod.Funcs[w.i.A]
	if w.i.A > 63 || f.Locals < 0 || f.Locals > 32 || f.Params > f.Locals {
		return api.ErrArg
	}
	if len(w.m.calls) >= 64 {
		return api.ErrDeep
	}
	w.begun = &modelCall{fn: w.i.A, locals: append(slices.Clone(w.args), nulls(f.Locals-f.Params)...)}
	return api.OK
}

// wanted are the kinds that operations ask for.
var wanted = map[int]int{
	api.OpCancel: api.KindRef, api.OpDemon: api.KindRef, api.OpLink: api.KindPid, api.OpUnlink: api.KindPid, api.OpMonitor: api.KindPid, api.OpTrap: api.KindBool, api.OpName: api.KindAtom, api.OpWhere: api.KindAtom,
}

// asks fills what is asked of the world.
func (w *modelWork) asks() api.Errno {
	i, l := w.i, w.args
	if kind, ok := wanted[i.Op]; ok && l[0].Kind != kind {
		return api.ErrKind
	}
	switch i.Op {
	case api.OpSelf:
		w.ask.Kind = api.AskSelf
	case api.OpNow:
		w.ask.Kind = api.AskNow
	case api.OpYield:
		w.ask.Kind = api.AskYield
	case api.OpSend:
		if l[0].Kind != api.KindAtom && l[0].Kind != api.KindPid {
			return api.ErrKind
		}
		w.ask = api.Ask{Kind: api.AskSend, To: l[0], Term: l[1]}
	case api.OpRecv:
		w.ask = api.Ask{Kind: api.AskRecv, Arms: i.Arms, Wait: i.B}
	case api.OpSpawn:
		w.ask = api.Ask{Kind: api.AskSpawn, Func: i.A, Class: i.B, Args: l}
	case api.OpTimer:
		if l[0].Kind != api.KindInt {
			return api.ErrKind
		}
		if l[0].N < 0 || l[0].N > 1<<20 {
			return api.ErrRange
		}
		w.ask = api.Ask{Kind: api.AskTimer, Wait: l[0].N, Term: l[1]}
	case api.OpCancel, api.OpLink, api.OpUnlink, api.OpMonitor, api.OpDemon:
		w.ask = api.Ask{Kind: i.Op - api.OpCancel + api.AskCancel, To: l[0]}
	case api.OpTrap, api.OpName, api.OpWhere, api.OpOut, api.OpExit:
		w.ask = api.Ask{Kind: i.Op - api.OpTrap + api.AskTrap, Term: l[0]}
	}
	return api.OK
}

// reply is Reply.
func (m *model) reply(mod api.Module, ask api.Ask, a api.Answer) (*model, api.Errno) {
	n := m.copied()
	if e := n.replied(mod, ask, a); e != api.OK {
		return m, e
	}
	return n, api.OK
}

func (m *model) replied(mod api.Module, ask api.Ask, a api.Answer) api.Errno {
	if ask.Kind < 2 || ask.Kind > 18 {
		return api.ErrArg
	}
	if len(m.calls) == 0 {
		return api.ErrEmpty
	}
	c, t := m.call(), a.Term
	switch ask.Kind {
	case api.AskTrap, api.AskOut, api.AskExit, api.AskYield:
		return api.OK
	case api.AskRecv:
		return m.received(mod, ask, a)
	case api.AskSend:
		t = ask.Term
	}
	if e := term.Check(t); e != api.OK {
		return e
	}
	if len(m.view().Terms) >= 256 {
		return api.ErrHigh
	}
	c.terms = append(c.terms, t)
	return api.OK
}

func (m *model) received(mod api.Module, ask api.Ask, a api.Answer) api.Errno {
	if !a.Is {
		return api.OK
	}
	f, i, ok := m.instr(mod)
	if !ok || a.Arm < -1 || a.Arm >= len(ask.Arms) {
		return api.ErrNone
	}
	c := m.call()
	for _, b := range a.Binds {
		if b.Local < 0 || b.Local >= len(c.locals) {
			return api.ErrNone
		}
		if e := term.Check(b.Term); e != api.OK {
			return e
		}
		c.locals[b.Local] = b.Term
	}
	to := i.A
	if a.Arm >= 0 {
		to = ask.Arms[a.Arm].To
	}
	if to < 0 || to >= len(f.Code) {
		return api.ErrNone
	}
	c.at = to
	return api.OK
}
