package step_test

import (
	"slices"
	"strconv"

	"carousel/api"
	"carousel/pattern"
)

// draw are numbers by a fixed rule.
type draw uint64

func (d *draw) below(n int) int {
	*d = *d*6364136223846793005 + 1442695040888963407
	return int(*d>>33) % n
}

func oneOf[T any](d *draw, l ...T) T { return l[d.below(len(l))] }

func (d *draw) term() api.Term { return oneOf(d, kinds()...) }

// maker draws a function that may be run: part by part, each of which leaves one term more.
type maker struct {
	draw
	code   []api.Instr
	params []int // of the functions
	locals int
}

func (g *maker) emit(i api.Instr) int {
	g.code = append(g.code, i)
	return len(g.code) - 1
}

func (g *maker) emitAll(l ...api.Instr) {
	for _, i := range l {
		g.emit(i)
	}
}

// module draws functions that call one another.
func (d *draw) module() api.Module {
	var m api.Module
	m.Name = "m"
	g := &maker{draw: *d}
	for range 1 + g.below(4) {
		g.params = append(g.params, g.below(3))
	}
	for n, params := range g.params {
		g.code, g.locals = nil, params+g.below(4)
		g.part(1 + g.below(5))
		if g.below(12) == 0 {
			g.emit(op(api.OpExit))
		}
		g.emit(ret())
		m.Funcs = append(m.Funcs, fun("f"+strconv.Itoa(n), params, g.locals, g.code...))
	}
	*d = g.draw
	return m
}

func (g *maker) part(left int) {
	if left <= 0 || len(g.code) > 500 {
		g.leaf()
		return
	}
	switch g.below(20) {
	case 0, 1:
		g.yesOrNo(left - 1)
		to := g.emit(op(api.OpIf))
		g.part(left - 1)
		end := g.emit(op(api.OpJump))
		g.code[to].A = len(g.code)
		g.part(left - 1)
		g.code[end].A = len(g.code)
	case 2:
		g.part(left - 1)
		g.arms(match(0), left)
	case 3:
		g.arms(recv(0, oneOf(&g.draw, -1, 0, 5)), left)
	case 4, 5:
		fn := g.below(len(g.params))
		g.parts(g.params[fn], left-1)
		g.emit(calls(fn))
	case 6:
		fn := g.below(len(g.params))
		g.parts(g.params[fn], left-1)
		g.emit(spawn(fn, g.below(3)))
	case 7:
		n := g.below(4)
		g.parts(n, left-1)
		g.emit(opA(oneOf(&g.draw, api.OpTuple, api.OpList), n))
	case 8, 9:
		g.number(left)
	case 10:
		g.yesOrNo(left)
	case 11:
		g.parts(2, left-1)
		g.emit(op(oneOf(&g.draw, api.OpEq, api.OpLess, api.OpAdd, api.OpElem, api.OpCons)))
	case 12:
		g.listed(left - 1)
	case 13:
		g.parts(2, left-1)
		g.emitAll(opA(api.OpDup, g.below(2)), opA(api.OpTuple, 3))
	case 14, 15:
		g.aside(left)
		g.part(left - 1)
	default:
		g.asked(left - 1)
	}
}

func (g *maker) parts(n, left int) {
	for range n {
		g.part(left)
	}
}

// listed leaves what is made of a list.
func (g *maker) listed(left int) {
	g.part(left - 1)
	n := 1 + g.below(3)
	g.parts(n, left-1)
	g.emitAll(opA(oneOf(&g.draw, api.OpList, api.OpList, api.OpTuple), n))
	switch g.below(3) {
	case 0:
		g.emit(op(api.OpCons))
	case 1:
		g.emitAll(op(oneOf(&g.draw, api.OpHead, api.OpTail, api.OpSize)), opA(api.OpTuple, 2))
	default:
		g.emitAll(push(in(g.below(3))), op(api.OpElem), opA(api.OpList, 2))
	}
}

// leaf leaves a term at once.
func (g *maker) leaf() {
	switch g.below(6) {
	case 0:
		g.emit(op(api.OpSelf))
	case 1:
		g.emit(op(api.OpNow))
	case 2, 3:
		if g.locals > 0 {
			g.emit(opA(api.OpLoad, g.below(g.locals)))
			return
		}
		fallthrough
	default:
		g.emit(push(g.term()))
	}
}

// number leaves a number.
func (g *maker) number(left int) {
	if left <= 0 || g.below(4) == 0 {
		g.emit(push(oneOf(&g.draw, in(0), in(1), in(-7), in(1000), in(api.MaxInt), num(3, 4), num(0, -1), num(1<<30, 5))))
		return
	}
	if g.below(4) == 0 {
		g.number(left - 1)
		g.emit(op(oneOf(&g.draw, api.OpNeg, api.OpConj)))
		return
	}
	g.number(left - 1)
	g.number(left - 1)
	g.emit(op(oneOf(&g.draw, api.OpAdd, api.OpSub, api.OpMul, api.OpDiv, api.OpRem, api.OpTurn)))
}

// yesOrNo leaves a bool.
func (g *maker) yesOrNo(left int) {
	switch g.below(4) {
	case 0:
		g.part(left - 1)
		g.emit(opA(api.OpKind, 1+g.below(9)))
	case 1:
		g.parts(2, left-1)
		g.emit(op(oneOf(&g.draw, api.OpEq, api.OpLess)))
	case 2:
		g.part(left - 1)
		g.emitAll(opA(api.OpKind, 3), op(api.OpNot))
	default:
		g.emit(push(oneOf(&g.draw, yes(), no())))
	}
}

// aside leaves nothing.
func (g *maker) aside(left int) {
	switch g.below(5) {
	case 0:
		g.emit(op(api.OpYield))
	case 1:
		g.yesOrNo(left - 1)
		g.emit(op(api.OpTrap))
	case 2:
		g.part(left - 1)
		g.emit(op(oneOf(&g.draw, api.OpOut, api.OpPop)))
	default:
		g.part(left - 1)
		if g.locals == 0 {
			g.emit(op(api.OpPop))
			return
		}
		g.emit(opA(api.OpStore, g.below(g.locals)))
	}
}

// asked leaves what the world answers.
func (g *maker) asked(left int) {
	switch g.below(6) {
	case 0:
		g.emit(oneOf(&g.draw, op(api.OpSelf), push(atom("a")), push(pid(9, 9))))
		g.part(left - 1)
		g.emit(op(api.OpSend))
	case 1:
		g.emit(push(oneOf(&g.draw, in(0), in(5), in(api.MaxTicks), in(api.MaxTicks+1))))
		g.part(left - 1)
		g.emit(op(api.OpTimer))
	case 2:
		g.emitAll(push(ref(7)), op(oneOf(&g.draw, api.OpCancel, api.OpDemon)))
	case 3:
		g.emitAll(op(api.OpSelf), op(oneOf(&g.draw, api.OpLink, api.OpUnlink, api.OpMonitor)))
	case 4:
		g.emitAll(push(atom("a")), op(oneOf(&g.draw, api.OpName, api.OpWhere)))
	default:
		g.part(left - 1)
		g.emit(op(oneOf(&g.draw, api.OpCancel, api.OpDemon, api.OpLink, api.OpName, api.OpWhere, api.OpHead)))
	}
}

// arms lead from an instruction to parts of their own, that come together behind.
func (g *maker) arms(i api.Instr, left int) {
	k := g.emit(i)
	var ends []int
	part := func() int {
		at := len(g.code)
		g.part(left - 2)
		ends = append(ends, g.emit(op(api.OpJump)))
		return at
	}
	if i.Op == api.OpMatch || i.B != -1 {
		g.code[k].A = part()
	}
	for range 1 + g.below(3) {
		p := g.pattern()
		g.code[k].Arms = append(g.code[k].Arms, arm(p, part()))
	}
	for _, at := range ends {
		g.code[at].A = len(g.code)
	}
}

func (g *maker) pattern() api.Pattern {
	var free []api.Pattern
	for n := range g.locals {
		free = append(free, local(n))
	}
	free = append(free, whatever(), whatever())
	k := g.below(len(free) - 1)
	a, b := free[k], free[k+1]
	return oneOf(&g.draw, a, a, tup(a, b), tup(is(atom("a")), a), of(1+g.below(9)), is(in(1)), api.Pattern{Kind: api.PatList, L: []api.Pattern{a}, Rest: []api.Pattern{b}}, api.Pattern{Kind: api.PatList})
}

// answer draws what the world answers.
func (d *draw) answer(a api.Ask) api.Answer {
	switch a.Kind {
	case api.AskSelf:
		return api.Answer{Term: pid(3, 1)}
	case api.AskNow:
		return api.Answer{Term: in(d.below(9))}
	case api.AskRecv:
		x := api.Answer{Is: d.below(4) > 0, Arm: d.below(len(a.Arms))}
		if a.Wait != -1 && d.below(3) == 0 {
			x.Arm = -1
			return x
		}
		l, _ := pattern.Locals(a.Arms[x.Arm].Pattern)
		for _, n := range l {
			x.Binds = append(x.Binds, bind(n, d.term()))
		}
		return x
	}
	return api.Answer{Term: d.term()}
}

// spoilt is a module with some instructions changed, or gone: most may not be run any more.
func (d *draw) spoilt(m api.Module) api.Module {
	l := slices.Clone(m.Funcs)
	for k := range l {
		l[k].Code = slices.Clone(l[k].Code)
		for range 1 + len(l[k].Code)/8 {
			i := &l[k].Code[d.below(len(l[k].Code))]
			if i.Op == api.OpMatch && d.below(2) == 0 {
				i.Arms = append([]api.Arm{arm(oneOf(d, api.Pattern{}, local(32), is(tuple())), 0)}, i.Arms...)
				continue
			}
			switch d.below(5) {
			case 0:
				i.Op = d.below(48)
			case 1:
				i.A += oneOf(d, -1, 1, 1000, least)
			case 2:
				i.Term = d.wrong()
			case 3:
				bad := arm(oneOf(d, local(31), api.Pattern{}, whatever()), d.below(2000)-1000)
				i.Arms = oneOf(d, append([]api.Arm{bad}, i.Arms...), append(slices.Clone(i.Arms), bad))
			default:
				*i = oneOf(d, samples()...).i
			}
		}
		if d.below(4) == 0 {
			l[k].Code = l[k].Code[:1+d.below(len(l[k].Code))]
		}
		if d.below(8) == 0 {
			l[k].Locals = oneOf(d, 0, 33, -1, 5)
		}
	}
	m.Funcs = l[:len(l)-d.below(2)]
	return m
}

// wrong is a term that may not be.
func (d *draw) wrong() api.Term { return oneOf(d, wrongs()...).t }

// wild is an answer of which most is wrong.
func (d *draw) wild(a api.Ask) (api.Ask, api.Answer) {
	x := d.answer(a)
	for range 1 + d.below(2) {
		switch d.below(6) {
		case 0:
			a.Kind = d.below(21)
		case 1:
			x.Arm = d.below(6) - 3
		case 2:
			x.Binds = append(x.Binds, bind(d.below(8)-2, d.term()))
		case 3:
			x.Binds = append(x.Binds, bind(0, d.wrong()))
		case 4:
			x.Term = d.wrong()
		default:
			a.Arms = append(slices.Clone(a.Arms), arm(whatever(), d.below(40)-5))
		}
	}
	return a, x
}
