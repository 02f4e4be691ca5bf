package slice_test

import (
	"strconv"

	"carousel/api"
	"carousel/pattern"
)

// draw are numbers by a fixed rule.
type draw uint64

func (d *draw) below(n int) int {
	*d = *d*6364136223846793005 + 1442695040888963407
	return int(*d>>33) % n
}

func oneOf[T any](d *draw, l ...T) T { return l[d.below(len(l))] }

func (d *draw) term() api.Term {
	return oneOf(d, null(), yes(), in(0), in(1), in(-7), in(api.MaxTicks+1), api.Term{Kind: api.KindComplex, C: complex(3, -4)}, atom("a"), atom("b"), pid(0, 1), pid(9, 2), ref(3), tuple(), tuple(atom("a"), in(1)), tuple(in(1), in(2)), list(), list(in(1), in(2), in(3)))
}

func (d *draw) terms(n int) []api.Term {
	var l []api.Term
	for range n {
		l = append(l, d.term())
	}
	return l
}

// maker draws a function that may be run: part by part, each of which leaves one term more.
type maker struct {
	draw
	code   []api.Instr
	params []int // of the functions
	fn     int
	own    int // locals that the parts may change: those that count rounds stand behind them
	counts int
}

func (g *maker) emit(l ...api.Instr) int {
	g.code = append(g.code, l...)
	return len(g.code) - 1
}

func op(n int) api.Instr { return api.Instr{Op: n} }

func opA(n, a int) api.Instr { return api.Instr{Op: n, A: a} }

func push(t api.Term) api.Instr { return api.Instr{Op: api.OpPush, Term: t} }

// module draws functions that call one another.
func (d *draw) module() api.Module {
	m := api.Module{Name: "m"}
	g := &maker{draw: *d}
	for range 1 + g.below(4) {
		g.params = append(g.params, g.below(3))
	}
	for n, params := range g.params {
		g.code, g.fn, g.own, g.counts = nil, n, params+g.below(4), 0
		g.part(2 + g.below(5))
		switch g.below(6) {
		case 0:
			g.emit(op(api.OpExit))
		case 1:
			g.emit(op(api.OpPop), opA(api.OpJump, 0))
		default:
			g.emit(op(api.OpRet))
		}
		m.Funcs = append(m.Funcs, api.Func{Name: "f" + strconv.Itoa(n), Params: params, Locals: g.own + g.counts, Code: g.code})
	}
	*d = g.draw
	return m
}

func (g *maker) part(left int) {
	if left <= 0 || len(g.code) > 300 {
		g.leaf()
		return
	}
	switch g.below(19) {
	case 0:
		g.yesOrNo(left - 1)
		to := g.emit(op(api.OpIf))
		g.part(left - 1)
		end := g.emit(op(api.OpJump))
		g.code[to].A = len(g.code)
		g.part(left - 1)
		g.code[end].A = len(g.code)
	case 1:
		g.part(left - 1)
		g.arms(op(api.OpMatch), left)
	case 2, 3:
		g.arms(api.Instr{Op: api.OpRecv, B: oneOf(&g.draw, -1, 0, 5)}, left)
	case 4, 5:
		fn := g.callee()
		g.parts(g.params[fn], left-1)
		g.emit(opA(api.OpCall, fn))
	case 6:
		fn := g.below(len(g.params))
		g.parts(g.params[fn], left-1)
		g.emit(api.Instr{Op: api.OpSpawn, A: fn, B: g.below(3)})
	case 7:
		n := g.below(4)
		g.parts(n, left-1)
		g.emit(opA(oneOf(&g.draw, api.OpTuple, api.OpList), n))
	case 8, 9:
		g.number(left)
	case 10:
		g.yesOrNo(left)
	case 11:
		g.listed(left - 1)
	case 12:
		g.parts(2, left-1)
		g.emit(opA(api.OpDup, g.below(2)), opA(api.OpTuple, 3))
	case 13:
		g.aside(left)
		g.part(left - 1)
	case 14, 15:
		g.rounds(left)
	default:
		g.asked(left - 1)
	}
}

// callee is mostly a function behind this one: so calls end.
func (g *maker) callee() int {
	if g.fn == len(g.params)-1 || g.below(10) == 0 {
		return g.below(len(g.params))
	}
	return g.fn + 1 + g.below(len(g.params)-1-g.fn)
}

func (g *maker) parts(n, left int) {
	for range n {
		g.part(left)
	}
}

// rounds goes through something some times, and leaves a term.
func (g *maker) rounds(left int) {
	if g.own+g.counts >= 20 {
		g.leaf()
		return
	}
	count := g.own + g.counts
	g.counts++
	g.emit(push(in(2+g.below(20))), opA(api.OpStore, count))
	begin := len(g.code)
	g.aside(left - 1)
	g.emit(opA(api.OpLoad, count), push(in(1)), op(api.OpSub), opA(api.OpDup, 0), opA(api.OpStore, count), push(in(0)), op(api.OpEq), op(api.OpNot), opA(api.OpIf, begin))
	g.part(left - 1)
}

// listed leaves what is made of a list.
func (g *maker) listed(left int) {
	g.part(left - 1)
	n := 1 + g.below(3)
	g.parts(n, left-1)
	g.emit(opA(api.OpList, n))
	switch g.below(3) {
	case 0:
		g.emit(op(api.OpCons))
	case 1:
		g.emit(op(oneOf(&g.draw, api.OpHead, api.OpTail, api.OpSize)), opA(api.OpTuple, 2))
	default:
		g.emit(push(in(g.below(n+g.below(20)/19))), op(api.OpElem), opA(api.OpList, 2))
	}
}

// leaf leaves a term at once.
func (g *maker) leaf() {
	switch g.below(6) {
	case 0:
		g.emit(op(api.OpSelf))
	case 1:
		g.emit(op(api.OpNow))
	case 2, 3:
		if g.own > 0 {
			g.emit(opA(api.OpLoad, g.below(g.own)))
			return
		}
		fallthrough
	default:
		g.emit(push(g.term()))
	}
}

// number leaves a number.
func (g *maker) number(left int) {
	if left <= 0 || g.below(3) == 0 {
		g.emit(push(oneOf(&g.draw, in(1), in(2), in(-7), in(g.below(30)), in(1000))))
		return
	}
	g.number(left - 1)
	if g.below(4) == 0 {
		g.emit(op(oneOf(&g.draw, api.OpNeg, api.OpConj)))
		return
	}
	g.number(left - 1)
	g.emit(op(oneOf(&g.draw, api.OpAdd, api.OpSub, api.OpMul, api.OpAdd, api.OpSub, api.OpMul, api.OpDiv, api.OpRem, api.OpTurn)))
}

// yesOrNo leaves a bool.
func (g *maker) yesOrNo(left int) {
	switch g.below(4) {
	case 0:
		g.part(left - 1)
		g.emit(opA(api.OpKind, 1+g.below(9)))
	case 1:
		g.parts(2, left-1)
		g.emit(op(oneOf(&g.draw, api.OpEq, api.OpLess)))
	case 2:
		g.part(left - 1)
		g.emit(opA(api.OpKind, 3), op(api.OpNot))
	default:
		g.emit(push(oneOf(&g.draw, yes(), no())))
	}
}

// aside leaves nothing.
func (g *maker) aside(left int) {
	switch g.below(6) {
	case 0:
		g.emit(op(api.OpYield))
	case 1:
		g.yesOrNo(left - 1)
		g.emit(op(api.OpTrap))
	case 2, 3:
		g.part(left - 1)
		g.emit(op(oneOf(&g.draw, api.OpOut, api.OpOut, api.OpPop)))
	default:
		g.part(left - 1)
		if g.own == 0 {
			g.emit(op(api.OpPop))
			return
		}
		g.emit(opA(api.OpStore, g.below(g.own)))
	}
}

// asked leaves what the world answers; now and then it asks for what may not be.
func (g *maker) asked(left int) {
	switch g.below(8) {
	case 0, 1:
		g.emit(oneOf(&g.draw, op(api.OpSelf), push(atom("a")), push(pid(9, 9))))
		g.part(left - 1)
		g.emit(op(api.OpSend))
	case 2:
		g.emit(push(oneOf(&g.draw, in(0), in(5), in(api.MaxTicks), in(17), in(9), in(api.MaxTicks+1))))
		g.part(left - 1)
		g.emit(op(api.OpTimer))
	case 3:
		g.emit(push(ref(7)), op(oneOf(&g.draw, api.OpCancel, api.OpDemon)))
	case 4, 5:
		g.emit(push(pid(2, 2)), op(oneOf(&g.draw, api.OpLink, api.OpUnlink, api.OpMonitor)))
	case 6:
		g.emit(push(atom("a")), op(oneOf(&g.draw, api.OpName, api.OpWhere)))
	default:
		g.part(left - 1)
		if g.below(4) == 0 {
			g.emit(op(oneOf(&g.draw, api.OpCancel, api.OpDemon, api.OpLink, api.OpName, api.OpWhere, api.OpHead)))
		}
	}
}

// arms lead from an instruction to parts of their own, that come together behind.
func (g *maker) arms(i api.Instr, left int) {
	k := g.emit(i)
	var ends []int
	part := func() int {
		at := len(g.code)
		g.part(left - 2)
		ends = append(ends, g.emit(op(api.OpJump)))
		return at
	}
	if i.Op == api.OpMatch || i.B != -1 {
		g.code[k].A = part()
	}
	for range 1 + g.below(3) {
		p := g.pattern()
		to := part()
		g.code[k].Arms = append(g.code[k].Arms, api.Arm{Pattern: p, To: to})
	}
	for _, at := range ends {
		g.code[at].A = len(g.code)
	}
}

func (g *maker) pattern() api.Pattern {
	whatever := api.Pattern{Kind: api.PatAny}
	free := []api.Pattern{whatever, whatever}
	for n := range g.own {
		free = append(free, api.Pattern{Kind: api.PatVar, N: n})
	}
	k := g.below(len(free) - 1)
	a, b := free[k], free[k+1]
	is := func(t api.Term) api.Pattern { return api.Pattern{Kind: api.PatTerm, Term: t} }
	tup := func(l ...api.Pattern) api.Pattern { return api.Pattern{Kind: api.PatTuple, L: l} }
	return oneOf(&g.draw, a, tup(a, b), tup(is(atom("a")), a), api.Pattern{Kind: api.PatKind, N: 1 + g.below(9)}, is(in(1)), is(atom("a")), api.Pattern{Kind: api.PatList, L: []api.Pattern{a}, Rest: []api.Pattern{b}}, api.Pattern{Kind: api.PatList})
}

// answer draws what the world answers to an ask, by its number: such as may be.
func (d draw) answer(k int, a api.Ask) api.Answer {
	d += draw(k) * 1000003
	d.below(2)
	switch a.Kind {
	case api.AskRecv:
		x := api.Answer{Is: d.below(6) > 0}
		if !x.Is {
			return x
		}
		if x.Arm = d.below(len(a.Arms)); a.Wait != -1 && d.below(3) == 0 {
			x.Arm = -1
			return x
		}
		l, _ := pattern.Locals(a.Arms[x.Arm].Pattern)
		for _, n := range l {
			x.Binds = append(x.Binds, api.Bind{Local: n, Term: d.term()})
		}
		return x
	}
	return api.Answer{Term: d.term()}
}

// wild is such an answer, of which now and then something is wrong.
func (d draw) wild(k int, a api.Ask) api.Answer {
	x := d.answer(k, a)
	d += draw(k)*7919 + 5
	switch d.below(20) {
	case 0:
		x.Arm = oneOf(&d, -2, -1, 1, 3, least, most)
	case 1:
		x.Binds = append(x.Binds, api.Bind{Local: oneOf(&d, -1, 0, 1, 31, 32, most), Term: d.term()})
	case 2:
		x.Binds = append(x.Binds, api.Bind{Term: oneOf(&d, wrongs()...).t})
	case 3:
		x.Term = oneOf(&d, wrongs()...).t
	}
	return x
}
