package step_test

import (
	"fmt"
	"slices"
	"testing"

	"carousel/api"
	"carousel/code"
	"carousel/frame"
	"carousel/step"
)

// here is the place at which the instruction stands that is looked at; there are places 0 to 5.
const here = 2

// bed is a module, of whose function 3 the place here has an instruction.
func bed(i api.Instr) api.Module {
	l := slices.Repeat([]api.Instr{op(api.OpYield)}, 6)
	l[here] = i
	return mod(rested("f", 0, 0), rested("g", 1, 2), rested("h", 2, 3), fun("i", 0, 3, l...))
}

// lastPlace is the same, with the instruction at the last of the places 0 to 2: there is none behind.
func lastPlace(i api.Instr) api.Module {
	m := bed(i)
	m.Funcs[3].Code = m.Funcs[3].Code[:here+1]
	return m
}

func threeLocals() []api.Term { return []api.Term{in(10), atom("b"), list(in(12))} }

// beds are views of stacks that stand at the place here, with some terms above the base: without anything below them, and with terms and calls.
func beds(above []api.Term, locals []api.Term) []api.View {
	last := func(base int) api.Frame { return call(3, here, base, locals...) }
	return []api.View{
		view(above, last(0)),
		view(append(row(4), above...), call(1, 5, 1, in(8), null()), last(4)),
		view(append(row(3), above...), call(3, here, 3, threeLocals()...), call(9, 1000, 3), last(3)),
		view(above, append(slices.Repeat([]api.Frame{call(2, 3, 0)}, 62), last(0))...),
	}
}

// done is an instruction that is done.
type done struct {
	i      api.Instr
	terms  []api.Term // above the base, ahead of it
	left   []api.Term // and behind
	ask    api.Ask
	cost   int
	to     int
	locals []api.Term // behind it; none: as they were
}

func terms(l ...api.Term) []api.Term { return l }

func show(i api.Instr, l []api.Term) string {
	name, _ := code.Op(i.Op)
	return fmt.Sprintf("%s (%d: %d %d, %d arms) of %s", name, i.Op, i.A, i.B, len(i.Arms), told(l))
}

// wantDo does an instruction.
func wantDo(t *testing.T, what string, m api.Module, s *frame.Stack, ask api.Ask, cost int) {
	t.Helper()
	if a, c, e := step.Do(m, s); !sameAsk(a, ask) || c != cost || e != api.OK {
		t.Errorf("%s: %s, %d, %d, not %s, %d", what, toldAsk(a), c, e, toldAsk(ask), cost)
	}
}

// wantDone does it in all beds, with terms of its own below those that it takes, and without.
func wantDone(t *testing.T, d done) {
	t.Helper()
	if d.locals == nil {
		d.locals = threeLocals()
	}
	for _, more := range [][]api.Term{nil, terms(atom("more")), row(7)} {
		ahead, behind := append(slices.Clone(more), d.terms...), append(slices.Clone(more), d.left...)
		want := beds(behind, d.locals)
		for k, v := range beds(ahead, threeLocals()) {
			u := want[k]
			u.Frames[len(u.Frames)-1].At = d.to
			s := load(t, v)
			wantDo(t, show(d.i, ahead), bed(d.i), s, d.ask, d.cost)
			holds(t, show(d.i, ahead), s, u)
		}
	}
}

// wantNotDo asks for an error, for nothing beside it, and for the stack as it was.
func wantNotDo(t *testing.T, what string, m api.Module, v api.View, f api.Errno) {
	t.Helper()
	s := load(t, v)
	if a, c, e := step.Do(m, s); !sameAsk(a, api.Ask{}) || c != 0 || e != f {
		t.Errorf("%s: %s, %d, %d, not %d", what, toldAsk(a), c, e, f)
	}
	holds(t, what, s, v)
}

// wantNotDone asks that in all beds.
func wantNotDone(t *testing.T, m api.Module, above []api.Term, f api.Errno) {
	t.Helper()
	for _, v := range beds(above, threeLocals()) {
		wantNotDo(t, show(m.Funcs[3].Code[here], above), m, v, f)
	}
}

func TestP102Plain(t *testing.T) {
	a, b, c := atom("a"), in(2), list(in(3))
	for _, d := range []done{
		{i: push(a), left: terms(a), ask: none(), cost: 1, to: 3},
		{i: push(c), left: terms(c), ask: none(), cost: 1, to: 3},
		{i: op(api.OpPop), terms: terms(a), ask: none(), cost: 1, to: 3},
		{i: op(api.OpPop), terms: terms(a, b), left: terms(a), ask: none(), cost: 1, to: 3},
		{i: opA(api.OpDup, 0), terms: terms(a), left: terms(a, a), ask: none(), cost: 1, to: 3},
		{i: opA(api.OpDup, 0), terms: terms(a, b), left: terms(a, b, b), ask: none(), cost: 1, to: 3},
		{i: opA(api.OpDup, 1), terms: terms(a, b), left: terms(a, b, a), ask: none(), cost: 1, to: 3},
		{i: opA(api.OpDup, 2), terms: terms(a, b, c), left: terms(a, b, c, a), ask: none(), cost: 1, to: 3},
		{i: opA(api.OpLoad, 0), left: terms(in(10)), ask: none(), cost: 1, to: 3},
		{i: opA(api.OpLoad, 1), left: terms(atom("b")), ask: none(), cost: 1, to: 3},
		{i: opA(api.OpLoad, 2), left: terms(list(in(12))), ask: none(), cost: 1, to: 3},
		{i: opA(api.OpStore, 0), terms: terms(a), ask: none(), cost: 1, to: 3, locals: terms(a, atom("b"), list(in(12)))},
		{i: opA(api.OpStore, 2), terms: terms(b, a), left: terms(b), ask: none(), cost: 1, to: 3, locals: terms(in(10), atom("b"), a)},
		{i: opA(api.OpTuple, 0), left: terms(tuple()), ask: none(), cost: 2, to: 3},
		{i: opA(api.OpTuple, 1), terms: terms(a), left: terms(tuple(a)), ask: none(), cost: 2, to: 3},
		{i: opA(api.OpTuple, 3), terms: terms(a, b, c), left: terms(tuple(a, b, c)), ask: none(), cost: 2, to: 3},
		{i: opA(api.OpTuple, 2), terms: terms(a, b, c), left: terms(a, tuple(b, c)), ask: none(), cost: 2, to: 3},
		{i: opA(api.OpList, 0), left: terms(list()), ask: none(), cost: 2, to: 3},
		{i: opA(api.OpList, 1), terms: terms(a), left: terms(list(a)), ask: none(), cost: 2, to: 3},
		{i: opA(api.OpList, 3), terms: terms(a, b, c), left: terms(list(a, b, c)), ask: none(), cost: 2, to: 3},
	} {
		wantDone(t, d)
	}
}

// Each kind is told from each other one; a number that is no kind is nobody's.
func TestP102Kind(t *testing.T) {
	for _, x := range kinds() {
		for _, a := range []int{least, -1, 0, 1, 2, 3, 4, 5, 6, 7, 8, 9, 10, x.Kind + 256, x.Kind + 1<<32, most} {
			left := no()
			if x.Kind == a {
				left = yes()
			}
			wantDone(t, done{i: opA(api.OpKind, a), terms: terms(x), left: terms(left), ask: none(), cost: 1, to: 3})
		}
	}
}

func TestP102Operations(t *testing.T) {
	three, four, l := num(1, 2), num(3, 4), list(in(1), in(2))
	for _, d := range []done{
		{i: op(api.OpAdd), terms: terms(in(1), in(2)), left: terms(in(3))},
		{i: op(api.OpSub), terms: terms(in(1), in(2)), left: terms(in(-1))},
		{i: op(api.OpMul), terms: terms(three, four), left: terms(num(-5, 10))},
		{i: op(api.OpDiv), terms: terms(in(-7), in(2)), left: terms(in(-3))},
		{i: op(api.OpRem), terms: terms(in(-7), in(2)), left: terms(in(-1))},
		{i: op(api.OpTurn), terms: terms(four, in(1)), left: terms(num(-4, 3))},
		{i: op(api.OpEq), terms: terms(in(1), in(2)), left: terms(no())},
		{i: op(api.OpEq), terms: terms(l, l), left: terms(yes())},
		{i: op(api.OpLess), terms: terms(in(1), in(2)), left: terms(yes())},
		{i: op(api.OpLess), terms: terms(in(2), in(1)), left: terms(no())},
		{i: op(api.OpElem), terms: terms(tuple(atom("a"), atom("b")), in(1)), left: terms(atom("b"))},
		{i: op(api.OpCons), terms: terms(in(0), l), left: terms(list(in(0), in(1), in(2)))},
		{i: op(api.OpNeg), terms: terms(in(5)), left: terms(in(-5))},
		{i: op(api.OpConj), terms: terms(four), left: terms(num(3, -4))},
		{i: op(api.OpNot), terms: terms(yes()), left: terms(no())},
		{i: op(api.OpSize), terms: terms(l), left: terms(in(2))},
		{i: op(api.OpHead), terms: terms(l), left: terms(in(1))},
		{i: op(api.OpTail), terms: terms(l), left: terms(list(in(2)))},
	} {
		d.ask, d.cost, d.to = none(), 1, 3
		wantDone(t, d)
	}
}

func TestP102JumpAndIf(t *testing.T) {
	for to := range 6 {
		wantDone(t, done{i: opA(api.OpJump, to), ask: none(), cost: 1, to: to})
		wantDone(t, done{i: opA(api.OpIf, to), terms: terms(yes()), ask: none(), cost: 1, to: to})
		wantDone(t, done{i: opA(api.OpIf, to), terms: terms(in(9), yes()), left: terms(in(9)), ask: none(), cost: 1, to: to})
		wantDone(t, done{i: opA(api.OpIf, to), terms: terms(no()), ask: none(), cost: 1, to: 3})
	}
	for _, to := range []int{-1, 6, least, most} { // where it does not go on there need be nothing
		wantDone(t, done{i: opA(api.OpIf, to), terms: terms(no()), ask: none(), cost: 1, to: 3})
	}
	for _, x := range kinds() {
		if x.Kind != api.KindBool {
			wantNotDone(t, bed(opA(api.OpIf, 0)), terms(x), api.ErrKind)
		}
	}
}

func TestP102Match(t *testing.T) {
	pair := tuple(atom("ok"), in(7))
	took := arm(tup(is(atom("ok")), local(1)), 4)
	bound := terms(in(10), in(7), list(in(12)))
	for _, d := range []done{
		{i: match(5), to: 5},
		{i: match(0), to: 0},
		{i: match(5, arm(of(api.KindList), 0)), to: 5},
		{i: match(5, arm(whatever(), 0)), to: 0},
		{i: match(5, took), to: 4, locals: bound},
		{i: match(5, arm(is(in(1)), 0), took, arm(whatever(), 1)), to: 4, locals: bound},
		{i: match(5, arm(whatever(), 1), took), to: 1},
		{i: match(5, arm(of(api.KindInt), 0), arm(of(api.KindAtom), 1)), to: 5},
		{i: match(here, arm(of(api.KindInt), 0)), to: here},
		{i: match(5, arm(local(0), 1)), to: 1, locals: terms(pair, atom("b"), list(in(12)))},
		{i: match(5, arm(tup(local(2), local(0)), 3)), to: 3, locals: terms(in(7), atom("b"), atom("ok"))},
		{i: match(5, took, arm(api.Pattern{}, 0), arm(local(3), 99)), to: 4, locals: bound}, // nobody looks behind the arm that fits
		{i: match(5, arm(tup(is(atom("no")), local(31)), -1), took), to: 4, locals: bound},  // nor at the locals and the place of one that does not
		{i: match(-1, took), to: 4, locals: bound},                                          // nor at A, if there is one
		{i: match(5, slices.Repeat([]api.Arm{arm(of(api.KindRef), -1)}, 100)...), to: 5},
	} {
		d.terms, d.ask, d.cost = terms(pair), none(), 2
		wantDone(t, d)
	}
}

// What arms do, that are refused.
func TestP102MatchRefused(t *testing.T) {
	deep := whatever()
	for range 64 {
		deep = tup(deep)
	}
	x := terms(in(1))
	refused := func(f api.Errno, a int, l ...api.Arm) {
		t.Helper()
		wantNotDone(t, bed(match(a, l...)), x, f)
	}
	fits := arm(whatever(), 4)
	refused(api.ErrPattern, 5, arm(api.Pattern{}, 4))
	refused(api.ErrPattern, 5, arm(api.Pattern{}, 4), fits)
	refused(api.ErrPattern, 5, arm(of(api.KindList), 4), arm(local(32), 4))
	refused(api.ErrPattern, 5, arm(tup(local(0), local(0)), 4), fits)
	refused(api.ErrParts, 5, arm(deep, 4), arm(api.Pattern{}, 4))
	refused(api.ErrPattern, 5, arm(api.Pattern{}, 4), arm(deep, 4))
	refused(api.ErrPattern, -1, arm(api.Pattern{}, 4))            // ahead of a place that there is not
	refused(api.ErrPattern, 5, arm(is(tuple()), -1))              // likewise
	refused(api.ErrNone, 5, arm(local(3), 4))                     // a local that the frame has not
	refused(api.ErrNone, 5, arm(local(31), 4), fits)              // though a later arm would fit
	refused(api.ErrNone, 5, arm(local(3), 4), arm(deep, 4))       // ahead of what is refused of a later arm
	refused(api.ErrParts, 5, arm(deep, 4), arm(local(3), 4))      // behind that of one ahead
	refused(api.ErrNone, 5, arm(whatever(), 6))                   // no such place
	refused(api.ErrNone, 5, arm(local(0), -1))                    // with nothing bound
	refused(api.ErrNone, 6)                                       // A, if no arm fits
	refused(api.ErrNone, least, arm(of(api.KindList), 4))         // likewise
	refused(api.ErrNone, most, arm(of(api.KindList), 4))          // likewise
	refused(api.ErrNone, 5, arm(is(in(2)), 0), arm(local(3), 99)) // both
	pair := terms(tuple(in(1), in(2)))
	wantNotDone(t, bed(match(5, arm(tup(local(0), local(3)), 4))), pair, api.ErrNone) // the first bind is not bound either
	wantNotDone(t, bed(match(5, arm(tup(local(3), local(0)), 4))), pair, api.ErrNone)
	wantNotDone(t, bed(match(5, arm(tup(local(0), local(1)), 6))), pair, api.ErrNone)
}

func TestP102Asks(t *testing.T) {
	a, b, p, r := atom("a"), in(2), pid(3, 1), ref(9)
	arms := []api.Arm{arm(local(0), 1), arm(api.Pattern{Kind: 77}, -9)}
	for _, d := range []done{
		{i: op(api.OpSelf), ask: ask(api.AskSelf), cost: 1, to: 3},
		{i: op(api.OpNow), ask: ask(api.AskNow), cost: 1, to: 3},
		{i: op(api.OpYield), ask: ask(api.AskYield), cost: 1, to: 3},
		{i: op(api.OpSend), terms: terms(p, b), ask: api.Ask{Kind: api.AskSend, To: p, Term: b}, cost: 4, to: 3},
		{i: op(api.OpSend), terms: terms(a, p), ask: api.Ask{Kind: api.AskSend, To: a, Term: p}, cost: 4, to: 3},
		{i: recv(0, -1), ask: api.Ask{Kind: api.AskRecv, Wait: -1}, cost: 2, to: here},
		{i: recv(4, 0, arms...), ask: api.Ask{Kind: api.AskRecv, Arms: arms}, cost: 2, to: here},
		{i: recv(4, 17, arms...), ask: api.Ask{Kind: api.AskRecv, Arms: arms, Wait: 17}, cost: 2, to: here},
		{i: recv(-4, most, arms[:1]...), ask: api.Ask{Kind: api.AskRecv, Arms: arms[:1], Wait: most}, cost: 2, to: here},
		{i: spawn(0, 0), ask: ask(api.AskSpawn), cost: 8, to: 3},
		{i: spawn(1, 2), terms: terms(a), ask: api.Ask{Kind: api.AskSpawn, Func: 1, Class: 2, Args: terms(a)}, cost: 8, to: 3},
		{i: spawn(2, 1), terms: terms(a, b), ask: api.Ask{Kind: api.AskSpawn, Func: 2, Class: 1, Args: terms(a, b)}, cost: 8, to: 3},
		{i: spawn(2, 99), terms: terms(b, a), ask: api.Ask{Kind: api.AskSpawn, Func: 2, Class: 99, Args: terms(b, a)}, cost: 8, to: 3},
		{i: spawn(3, -1), ask: api.Ask{Kind: api.AskSpawn, Func: 3, Class: -1}, cost: 8, to: 3},
		{i: op(api.OpTimer), terms: terms(in(0), a), ask: api.Ask{Kind: api.AskTimer, Term: a}, cost: 2, to: 3},
		{i: op(api.OpTimer), terms: terms(in(5), in(6)), ask: api.Ask{Kind: api.AskTimer, Wait: 5, Term: in(6)}, cost: 2, to: 3},
		{i: op(api.OpTimer), terms: terms(in(1<<20), b), ask: api.Ask{Kind: api.AskTimer, Wait: 1 << 20, Term: b}, cost: 2, to: 3},
		{i: op(api.OpCancel), terms: terms(r), ask: api.Ask{Kind: api.AskCancel, To: r}, cost: 2, to: 3},
		{i: op(api.OpLink), terms: terms(p), ask: api.Ask{Kind: api.AskLink, To: p}, cost: 2, to: 3},
		{i: op(api.OpUnlink), terms: terms(p), ask: api.Ask{Kind: api.AskUnlink, To: p}, cost: 2, to: 3},
		{i: op(api.OpMonitor), terms: terms(p), ask: api.Ask{Kind: api.AskMonitor, To: p}, cost: 2, to: 3},
		{i: op(api.OpDemon), terms: terms(r), ask: api.Ask{Kind: api.AskDemon, To: r}, cost: 2, to: 3},
		{i: op(api.OpTrap), terms: terms(yes()), ask: api.Ask{Kind: api.AskTrap, Term: yes()}, cost: 1, to: 3},
		{i: op(api.OpTrap), terms: terms(no()), ask: api.Ask{Kind: api.AskTrap, Term: no()}, cost: 1, to: 3},
		{i: op(api.OpName), terms: terms(a), ask: api.Ask{Kind: api.AskName, Term: a}, cost: 2, to: 3},
		{i: op(api.OpWhere), terms: terms(a), ask: api.Ask{Kind: api.AskWhere, Term: a}, cost: 2, to: 3},
	} {
		wantDone(t, d)
	}
	for _, x := range kinds() {
		wantDone(t, done{i: op(api.OpOut), terms: terms(x), ask: api.Ask{Kind: api.AskOut, Term: x}, cost: 2, to: 3})
		wantDone(t, done{i: op(api.OpExit), terms: terms(x), ask: api.Ask{Kind: api.AskExit, Term: x}, cost: 1, to: here})
		wantDone(t, done{i: op(api.OpSend), terms: terms(a, x), ask: api.Ask{Kind: api.AskSend, To: a, Term: x}, cost: 4, to: 3})
	}
}

// Each operation that wants a kind is refused all others.
func TestP102AsksOfOtherKinds(t *testing.T) {
	for _, x := range kinds() {
		for n, kind := range wanted {
			if x.Kind != kind {
				wantNotDone(t, bed(op(n)), terms(x), api.ErrKind)
				wantNotDone(t, lastPlace(op(n)), terms(x), api.ErrKind)
			}
		}
		if x.Kind != api.KindPid && x.Kind != api.KindAtom {
			wantNotDone(t, bed(op(api.OpSend)), terms(x, atom("a")), api.ErrKind)
			wantNotDone(t, lastPlace(op(api.OpSend)), terms(x, pid(1, 1)), api.ErrKind)
		}
		if x.Kind != api.KindInt {
			wantNotDone(t, bed(op(api.OpTimer)), terms(x, in(1)), api.ErrKind)
			wantNotDone(t, lastPlace(op(api.OpTimer)), terms(x, in(1)), api.ErrKind)
		}
	}
	for _, n := range []int{-1, 1<<20 + 1, api.MinInt, api.MaxInt} {
		wantNotDone(t, bed(op(api.OpTimer)), terms(in(n), in(1)), api.ErrRange)
		wantNotDone(t, lastPlace(op(api.OpTimer)), terms(in(n), in(1)), api.ErrRange)
	}
}

func TestExamples(t *testing.T) {
	m := mod(fun("f", 0, 1, push(in(1)), push(in(2)), op(api.OpAdd), ret()))
	s, _ := step.Begin(m, 0, nil)
	for range 3 {
		wantDo(t, "an example", m, s, none(), 1)
	}
	holds(t, "push 1, push 2, add", s, view(terms(in(3)), call(0, 3, 0, null())))
	wantDo(t, "ret", m, s, api.Ask{Kind: api.AskExit, Term: atom("normal"), Args: terms(in(3))}, 1)
	holds(t, "ret", s, view(terms(in(3))))
	wantNotDo(t, "behind the end", m, s.View(), api.ErrEmpty)

	wantNotDo(t, "a + 1", m, view(terms(atom("a"), in(1)), call(0, 2, 0, null())), api.ErrKind)

	m = mod(fun("f", 0, 1, op(api.OpSelf), recv(0, -1, arm(local(0), 2)), ret()))
	s, _ = step.Begin(m, 0, nil)
	wantDo(t, "self", m, s, ask(api.AskSelf), 1)
	want(t, "Reply", step.Reply(m, s, ask(api.AskSelf), api.Answer{Term: pid(3, 1)}), api.OK)
	holds(t, "self", s, view(terms(pid(3, 1)), call(0, 1, 0, null())))
	a := api.Ask{Kind: api.AskRecv, Arms: []api.Arm{arm(local(0), 2)}, Wait: -1}
	wantDo(t, "recv", m, s, a, 2)
	holds(t, "recv", s, view(terms(pid(3, 1)), call(0, 1, 0, null())))
	want(t, "Reply", step.Reply(m, s, a, api.Answer{Is: true, Binds: []api.Bind{{Local: 0, Term: in(5)}}}), api.OK)
	holds(t, "recv", s, view(terms(pid(3, 1)), call(0, 2, 0, in(5))))
}
