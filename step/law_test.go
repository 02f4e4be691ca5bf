package step_test

import (
	"slices"
	"testing"

	"carousel/api"
	"carousel/code"
	"carousel/frame"
	"carousel/step"
	"carousel/term"
)

// played is a stack beside its model, and what it has been through.
type played struct {
	s   *frame.Stack
	n   *model
	m   api.Module
	ops map[int]int
	es  map[api.Errno]int
}

// do does an instruction both ways.
func (p *played) do(t *testing.T) (api.Ask, api.Errno) {
	t.Helper()
	op := -1
	if len(p.n.calls) > 0 {
		if _, i, ok := p.n.instr(p.m); ok {
			op = i.Op
		}
	}
	n, ask, cost, f := p.n.do(p.m)
	a, c, e := step.Do(p.m, p.s)
	if !sameAsk(a, ask) || c != cost || e != f {
		t.Fatalf("operation %d of %s: %s, %d, %d, not %s, %d, %d", op, toldView(p.n.view()), toldAsk(a), c, e, toldAsk(ask), cost, f)
	}
	p.n = n
	p.as(t, op)
	p.es[e]++
	if e == api.OK {
		p.ops[op]++
	}
	return a, e
}

// reply gives an answer both ways.
func (p *played) reply(t *testing.T, ask api.Ask, a api.Answer) api.Errno {
	t.Helper()
	n, f := p.n.reply(p.m, ask, a)
	if e := step.Reply(p.m, p.s, ask, a); e != f {
		t.Fatalf("Reply to %s: %d, not %d", toldAsk(ask), e, f)
	}
	p.n = n
	p.as(t, -1)
	return f
}

func (p *played) as(t *testing.T, op int) {
	t.Helper()
	if u, v := p.s.View(), p.n.view(); !sameView(u, v) {
		t.Fatalf("behind operation %d: the stack is %s, not %s", op, toldView(u), toldView(v))
	}
}

// wantSafe asks for what may be told of a module that may be run.
func (p *played) wantSafe(t *testing.T, heights [][]int, e api.Errno, fn, at, height int) {
	t.Helper()
	if heights[fn][at] != height {
		t.Fatalf("the height at %d of function %d: %d, not %d", at, fn, height, heights[fn][at])
	}
	switch e {
	case api.ErrArg, api.ErrEmpty, api.ErrNone, api.ErrCode, api.ErrTerm, api.ErrPattern:
		t.Fatalf("at %d of function %d: %d", at, fn, e)
	}
}

func heightsOf(t *testing.T, m api.Module) [][]int {
	t.Helper()
	var l [][]int
	for fn := range m.Funcs {
		h, e := code.Heights(m, fn)
		if e != api.OK {
			e, fn, at := code.Check(m)
			t.Fatalf("a drawn module that may not be run: %d, %d, %d", e, fn, at)
		}
		l = append(l, h)
	}
	return l
}

// Whole programs, drawn by a fixed rule, instruction by instruction, both ways; and what may be told of them.
func TestP105Programs(t *testing.T) {
	var d draw = 10
	ops, es, ends := map[int]int{}, map[api.Errno]int{}, 0
	for range 3000 {
		m := d.module()
		heights := heightsOf(t, m)
		fn := d.below(len(m.Funcs))
		var args []api.Term
		for range m.Funcs[fn].Params {
			args = append(args, d.term())
		}
		s, e := step.Begin(m, fn, args)
		want(t, "Begin", e, api.OK)
		p := &played{s: s, n: modelOf(view(nil, call(fn, 0, 0, append(args, nulls(m.Funcs[fn].Locals-len(args))...)...))), m: m, ops: ops, es: es}
		p.as(t, -1)
		for range 400 {
			fn, at, _ := s.Top()
			height := s.Height()
			a, e := p.do(t)
			p.wantSafe(t, heights, e, fn, at, height)
			if e != api.OK || a.Kind == api.AskExit {
				ends++
				break
			}
			if a.Kind == api.AskNone {
				continue
			}
			if e := p.reply(t, a, d.answer(a)); e != api.OK {
				t.Fatalf("Reply to %s: %d", toldAsk(a), e)
			}
		}
		if s.Depth() == 0 {
			_, e := p.do(t)
			want(t, "Do behind the end", e, api.ErrEmpty)
		}
	}
	for n := api.OpPush; n <= api.OpYield; n++ {
		if ops[n] < 10 {
			t.Errorf("operation %d is done %d times", n, ops[n])
		}
	}
	for _, e := range []api.Errno{api.ErrKind, api.ErrRange, api.ErrZero, api.ErrDeep} {
		if es[e] < 5 {
			t.Errorf("the error %d is told %d times", e, es[e])
		}
	}
	if ends < 1000 {
		t.Error("too few programs end:", ends)
	}
}

// Programs of which some instructions are wrong, and answers that are wrong: both ways tell the same.
func TestP102SpoiltPrograms(t *testing.T) {
	var d draw = 11
	ops, es := map[int]int{}, map[api.Errno]int{}
	for range 4000 {
		m := d.module()
		fn := d.below(len(m.Funcs))
		v := view(row(d.below(4)), call(fn, 0, 0, nulls(max(m.Funcs[fn].Locals, 0))...))
		p := &played{s: load(t, v), n: modelOf(v), m: d.spoilt(m), ops: ops, es: es}
		for range 60 {
			a, e := p.do(t)
			if e != api.OK || a.Kind == api.AskExit {
				break
			}
			if a.Kind == api.AskNone {
				continue
			}
			if len(a.Arms) == 0 && a.Kind == api.AskRecv {
				break
			}
			if d.below(3) == 0 {
				ask, x := d.wild(a)
				p.reply(t, ask, x)
			}
			p.reply(t, a, d.answer(a))
		}
	}
	for _, e := range []api.Errno{api.ErrNone, api.ErrCode, api.ErrEmpty, api.ErrArg, api.ErrPattern, api.ErrTerm, api.ErrKind} {
		if es[e] < 5 {
			t.Errorf("the error %d is told %d times", e, es[e])
		}
	}
}

// Each operation, with whatever terms, fields and places: both ways tell the same.
func TestP102AllOperations(t *testing.T) {
	var above [][]api.Term
	for _, x := range kinds() {
		above = append(above, terms(x))
		for _, y := range kinds() {
			above = append(above, terms(x, y))
		}
	}
	few := [][]api.Term{nil, row(1), row(2), row(7), row(31), terms(yes()), terms(no())}
	arms := []api.Arm{arm(tup(local(0), local(1)), 1), arm(of(api.KindList), -1), arm(local(2), 5), arm(api.Pattern{}, 0)}
	fields := []int{least, least + 1, -2, -1, 0, 1, 2, 3, 4, 5, 6, 30, 31, 32, 63, 64, 255, 256, 257, 1 << 32, most - 1, most}
	for n := -1; n <= 48; n++ {
		for _, a := range fields {
			for k := range len(arms) + 1 {
				i := api.Instr{Op: n, A: a, B: 1 - a, Term: in(a % 1000), Arms: arms[k:]}
				l := few
				if a == 0 && k == 0 {
					l = append(slices.Clone(few), above...)
				}
				for _, ts := range l {
					sweep(t, bed(i), ts)
					sweep(t, lastPlace(i), ts)
				}
			}
		}
	}
}

func sweep(t *testing.T, m api.Module, above []api.Term) {
	t.Helper()
	for _, v := range beds(above, threeLocals())[:2] {
		p := &played{s: load(t, v), n: modelOf(v), m: m, ops: map[int]int{}, es: map[api.Errno]int{}}
		p.do(t)
	}
}

// Push a, push b, and an operation leave what layer 3 makes of them.
func TestP106PureInstructions(t *testing.T) {
	l := append(kinds(), in(7), in(-2), num(1, 2), num(1<<30, 0), in(1<<31), list(nulls(1023)...), deepOf(63, in(1)))
	for op := api.OpAdd; op <= api.OpTail; op++ {
		if op == api.OpKind || op == api.OpTuple || op == api.OpList {
			continue
		}
		for _, a := range l {
			if x, e := term.Unary(op, a); e != api.ErrArg {
				pure(t, op, x, e, a)
				continue
			}
			for _, b := range l {
				x, e := term.Binary(op, a, b)
				pure(t, op, x, e, a, b)
			}
		}
	}
}

func pure(t *testing.T, n int, x api.Term, f api.Errno, l ...api.Term) {
	t.Helper()
	var rows []api.Instr
	for _, a := range l {
		rows = append(rows, push(a))
	}
	m := mod(fun("f", 0, 0, append(rows, op(n), ret())...))
	s, _ := step.Begin(m, 0, nil)
	for range l {
		wantDo(t, "push", m, s, none(), 1)
	}
	if f != api.OK {
		wantNotDo(t, show(op(n), l), m, s.View(), f)
		return
	}
	wantDo(t, show(op(n), l), m, s, none(), 1)
	holds(t, show(op(n), l), s, view(terms(x), call(0, len(l)+1, 0)))
}
