package slice_test

import (
	"slices"

	"carousel/api"
	"carousel/pattern"
	"carousel/term"
)

// trace is a second way to run an actor: all at once, a call of the actor's being a call of the trace's, each with terms of its own. What was done is written down, instruction by instruction; slices are cut from that behind.
type trace struct {
	m     api.Module
	world func(api.Ask) api.Answer
	deeds []deed
	most  int // of deeds
	calls int // that go on
	terms int // of all calls
}

// deed is an instruction that was done.
type deed struct {
	fn, at int
	terms  []api.Term // of its call, ahead of it
	locals []api.Term
	op     int
	cost   int
	asked  bool
	end    int // how the slice ends by it, whatever the budget is; 0: it does not
	reason api.Term
	left   []api.Term // what the first call left
}

// over is what a trace panics with when it ends.
type over struct{}

// traceOf is what an actor does, up to so many instructions.
func traceOf(m api.Module, fn int, args []api.Term, most int, world func(api.Ask) api.Answer) (deeds []deed) {
	x := &trace{m: m, world: world, most: most}
	defer func() {
		if r := recover(); r != nil && r != any(over{}) {
			panic(r)
		}
		deeds = x.deeds
	}()
	left := x.call(fn, args)
	x.end(api.EndExit, normal(), left)
	return
}

// end ends the actor by the last deed.
func (x *trace) end(how int, reason api.Term, left ...api.Term) {
	d := &x.deeds[len(x.deeds)-1]
	d.end, d.reason, d.left = how, reason, left
	panic(over{})
}

// fail ends the actor, if there is an error. What is refused ahead of an ask costs one.
func (x *trace) fail(e api.Errno) {
	if e == api.OK {
		return
	}
	d := &x.deeds[len(x.deeds)-1]
	if !d.asked {
		d.cost = 1
	}
	words := map[api.Errno]string{api.ErrKind: "badkind", api.ErrRange: "badrange", api.ErrZero: "badzero", api.ErrParts: "toobig", api.ErrDeep: "toodeep", api.ErrHigh: "toohigh"}
	reason := atom("badcode")
	if s, ok := words[e]; ok {
		reason = atom(s)
	}
	x.end(api.EndFault, reason)
}

// played is a call that goes on.
type played struct {
	*trace
	fn, at int
	locals []api.Term
	stack  []api.Term
}

func (x *trace) call(fn int, args []api.Term) api.Term {
	x.calls++
	f := x.m.Funcs[fn]
	p := &played{trace: x, fn: fn, locals: append(slices.Clone(args), nulls(f.Locals-len(args))...)}
	for {
		i := f.Code[p.at]
		if len(x.deeds) == x.most {
			panic(over{})
		}
		x.deeds = append(x.deeds, deed{fn: fn, at: p.at, terms: slices.Clone(p.stack), locals: slices.Clone(p.locals), op: i.Op, cost: costOf(i.Op)})
		if x.terms == 256 && p.grows(i) {
			x.fail(api.ErrHigh)
		}
		p.at++
		if i.Op == api.OpRet {
			x.calls--
			x.terms -= len(p.stack)
			return p.stack[len(p.stack)-1]
		}
		p.do(i)
	}
}

func costOf(op int) int {
	switch op {
	case api.OpSpawn:
		return 8
	case api.OpSend:
		return 4
	case api.OpTuple, api.OpList, api.OpMatch, api.OpCall, api.OpRecv, api.OpTimer, api.OpCancel, api.OpLink, api.OpUnlink, api.OpMonitor, api.OpDemon, api.OpName, api.OpWhere, api.OpOut:
		return 2
	}
	return 1
}

// grows tells whether an instruction leaves more terms than it takes.
func (p *played) grows(i api.Instr) bool {
	switch i.Op {
	case api.OpPush, api.OpDup, api.OpLoad, api.OpSelf, api.OpNow:
		return true
	case api.OpTuple, api.OpList:
		return i.A == 0
	case api.OpCall, api.OpSpawn:
		return p.m.Funcs[i.A].Params == 0
	}
	return false
}

func (p *played) push(t api.Term) {
	p.stack = append(p.stack, t)
	p.terms++
}

// leave pushes what was worked out, if that was not refused.
func (p *played) leave(t api.Term, e api.Errno) {
	p.fail(e)
	p.push(t)
}

// take are the last terms, which go.
func (p *played) take(n int) []api.Term {
	l := slices.Clone(p.stack[len(p.stack)-n:])
	p.stack = p.stack[:len(p.stack)-n]
	p.terms -= n
	return l
}

// goes goes on at a place.
func (p *played) goes(to int) { p.at = to }

func (p *played) do(i api.Instr) {
	switch i.Op {
	case api.OpPush:
		p.push(i.Term)
	case api.OpPop:
		p.take(1)
	case api.OpDup:
		p.push(p.stack[len(p.stack)-1-i.A])
	case api.OpLoad:
		p.push(p.locals[i.A])
	case api.OpStore:
		p.locals[i.A] = p.take(1)[0]
	case api.OpNeg, api.OpConj, api.OpNot, api.OpSize, api.OpHead, api.OpTail:
		p.leave(term.Unary(i.Op, p.take(1)[0]))
	case api.OpKind:
		p.push(api.Term{Kind: api.KindBool, N: map[bool]int{true: 1}[p.take(1)[0].Kind == i.A]})
	case api.OpTuple:
		p.leave(term.Make(api.KindTuple, p.take(i.A)))
	case api.OpList:
		p.leave(term.Make(api.KindList, p.take(i.A)))
	case api.OpJump:
		p.goes(i.A)
	case api.OpIf:
		t := p.take(1)[0]
		if t.Kind != api.KindBool {
			p.fail(api.ErrKind)
		}
		p.goes([]int{p.at, i.A}[t.N])
	case api.OpMatch:
		l := p.take(1)
		if at, to, e := p.first(l, i.Arms); e == api.OK && at == 0 {
			p.goes(to)
			return
		}
		p.goes(i.A)
	case api.OpCall:
		args := p.take(p.m.Funcs[i.A].Params)
		if p.calls == 64 {
			p.fail(api.ErrDeep)
		}
		p.push(p.call(i.A, args))
	default:
		if i.Op < api.OpSelf {
			l := p.take(2)
			p.leave(term.Binary(i.Op, l[0], l[1]))
			return
		}
		p.asks(i)
	}
}

// first binds what the first term binds that matches an arm: its place, and where that arm leads.
func (p *played) first(l []api.Term, arms []api.Arm) (at, to int, e api.Errno) {
	for at, t := range l {
		for _, arm := range arms {
			binds, ok, _ := pattern.Match(arm.Pattern, t)
			if !ok {
				continue
			}
			for _, b := range binds {
				p.locals[b.Local] = b.Term
			}
			return at, arm.To, api.OK
		}
	}
	return 0, 0, api.ErrNone
}

// need fails the actor by another kind, or number.
func (p *played) need(ok bool, e api.Errno) {
	if !ok {
		p.fail(e)
	}
}

// asks asks the world, and does what it answers.
func (p *played) asks(i api.Instr) {
	takes := map[int]int{api.OpSelf: 0, api.OpNow: 0, api.OpYield: 0, api.OpRecv: 0, api.OpSend: 2, api.OpTimer: 2}
	n, ok := takes[i.Op]
	if !ok {
		n = 1
	}
	if i.Op == api.OpSpawn {
		n = p.m.Funcs[i.A].Params
	}
	l := p.take(n)
	ask := api.Ask{Kind: api.AskSelf + i.Op - api.OpSelf}
	switch i.Op {
	case api.OpSend:
		p.need(l[0].Kind == api.KindPid || l[0].Kind == api.KindAtom, api.ErrKind)
		ask.To, ask.Term = l[0], l[1]
	case api.OpRecv:
		ask.Arms, ask.Wait = i.Arms, i.B
	case api.OpSpawn:
		ask.Func, ask.Class, ask.Args = i.A, i.B, l
	case api.OpTimer:
		p.need(l[0].Kind == api.KindInt, api.ErrKind)
		p.need(l[0].N >= 0 && l[0].N <= 1<<20, api.ErrRange)
		ask.Wait, ask.Term = l[0].N, l[1]
	case api.OpCancel, api.OpDemon:
		p.need(l[0].Kind == api.KindRef, api.ErrKind)
		ask.To = l[0]
	case api.OpLink, api.OpUnlink, api.OpMonitor:
		p.need(l[0].Kind == api.KindPid, api.ErrKind)
		ask.To = l[0]
	case api.OpTrap:
		p.need(l[0].Kind == api.KindBool, api.ErrKind)
		ask.Term = l[0]
	case api.OpName, api.OpWhere:
		p.need(l[0].Kind == api.KindAtom, api.ErrKind)
		ask.Term = l[0]
	case api.OpOut:
		ask.Term = l[0]
	case api.OpExit:
		p.end(api.EndExit, l[0])
	}
	d := &p.deeds[len(p.deeds)-1]
	d.asked = true
	p.answered(i, d, ask, p.world(copied(ask)))
}

func (p *played) answered(i api.Instr, d *deed, ask api.Ask, a api.Answer) {
	switch i.Op {
	case api.OpTrap, api.OpOut:
	case api.OpYield:
		d.end = api.EndYield
	case api.OpSend:
		p.push(ask.Term)
	case api.OpRecv:
		p.received(i, d, a)
	default:
		p.leave(a.Term, term.Check(a.Term))
	}
}

func (p *played) received(i api.Instr, d *deed, a api.Answer) {
	if !a.Is {
		d.end = api.EndWait
		p.at--
		return
	}
	p.need(a.Arm >= -1 && a.Arm < len(i.Arms), api.ErrNone)
	for _, b := range a.Binds {
		p.need(b.Local >= 0 && b.Local < len(p.locals), api.ErrNone)
		p.fail(term.Check(b.Term))
		p.locals[b.Local] = b.Term
	}
	if a.Arm == -1 {
		p.goes(i.A)
		return
	}
	p.goes(i.Arms[a.Arm].To)
}

// cut is the slice that a budget lets be done of some deeds, and how many these are.
func cut(deeds []deed, budget int) (api.Slice, int) {
	var x api.Slice
	for _, d := range deeds {
		x.Steps++
		x.Reds += d.cost
		if d.end != 0 {
			x.End, x.Reason = d.end, d.reason
			return x, x.Steps
		}
		if budget-x.Reds < 8 {
			break
		}
	}
	x.End = api.EndYield
	return x, x.Steps
}

// modelAlone is a second way to do what Solo and Reds do.
func modelAlone(m api.Module, fn int, args, inbox []api.Term, slices int) (api.Meaning, int) {
	x, reds := api.Meaning{End: api.EndYield}, 0
	w := &modelWorld{inbox: inbox}
	deeds := traceOf(m, fn, args, slices*57, w.answer) // no slice does more than 57
	asked := 0
	for range slices {
		s, n := cut(deeds, 64)
		for _, d := range deeds[:n] {
			if d.asked {
				asked++
			}
			x.End, x.Term = s.End, s.Reason
			if d.left != nil {
				x.Term = d.left[0]
			}
		}
		reds += s.Reds
		deeds = deeds[n:]
		if s.End != api.EndYield {
			break
		}
	}
	x.Left = len(inbox)
	for _, d := range w.did[:asked] { // what the trace did behind the last slice is none of it
		x.Outs, x.Posts = append(x.Outs, d.outs...), append(x.Posts, d.posts...)
		x.Left -= d.took
	}
	x.Outs, x.Posts = x.Outs[:min(len(x.Outs), 4096)], x.Posts[:min(len(x.Posts), 4096)]
	return x, reds
}

// modelWorld keeps what each ask did to it.
type modelWorld struct {
	inbox []api.Term
	did   []modelDid
}

type modelDid struct {
	outs  []api.Term
	posts []api.Post
	took  int
}

func (w *modelWorld) answer(a api.Ask) api.Answer {
	var d modelDid
	defer func() { w.did = append(w.did, d) }()
	switch a.Kind {
	case api.AskSelf:
		return api.Answer{Term: pid(0, 1)}
	case api.AskNow:
		return api.Answer{Term: in(0)}
	case api.AskSpawn, api.AskTimer, api.AskMonitor:
		return api.Answer{Term: atom("full")}
	case api.AskCancel, api.AskWhere:
		return api.Answer{Term: null()}
	case api.AskLink, api.AskUnlink, api.AskDemon, api.AskName:
		return api.Answer{Term: no()}
	case api.AskOut:
		d.outs = terms(a.Term)
	case api.AskSend:
		if a.To.Kind == api.KindPid {
			d.posts = []api.Post{{To: a.To.P, Term: a.Term}}
		}
	case api.AskRecv:
		for k, t := range w.inbox {
			for n, arm := range a.Arms {
				if binds, ok, _ := pattern.Match(arm.Pattern, t); ok {
					w.inbox = append(slices.Clone(w.inbox[:k]), w.inbox[k+1:]...)
					d.took = 1
					return api.Answer{Is: true, Arm: n, Binds: binds}
				}
			}
		}
		return api.Answer{Is: a.Wait != -1, Arm: -1}
	}
	return api.Answer{}
}
