package slice_test

import (
	"slices"
	"testing"

	"carousel/api"
	"carousel/frame"
	"carousel/slice"
)

// asking is a program that asks for all that there is, in turn, each with other terms.
const asking = "self; now; send; pop; recv 5 3 ? {a, $0} -> 5 ? _ -> 5; push 1; push 2; spawn 1 2; pop; push 9; push m; timer; cancel; pop; push <1.1>; link; pop; push <2.1>; unlink; pop; push <3.1>; monitor; demon; pop; " +
	"push true; trap; push bob; name; pop; push ann; where; out; yield; load 0; exit; func g 2 2; push 1; ret"

// answersInTurn answers the asks of asking.
func answersInTurn(k int, a api.Ask) api.Answer {
	switch a.Kind {
	case api.AskSelf:
		return api.Answer{Term: pid(7, 2)}
	case api.AskRecv:
		return api.Answer{Is: true, Arm: 0, Binds: []api.Bind{{Local: 0, Term: atom("got")}}}
	case api.AskTimer, api.AskMonitor:
		return api.Answer{Term: ref(100 + k)}
	}
	return api.Answer{Term: in(k)}
}

// What is asked of the world: in the order of the instructions, once each, with all that layer 10 has in it; and nothing else.
func TestSl1AsksInOrder(t *testing.T) {
	m := prog(t, asking)
	arms := m.Funcs[0].Code[4].Arms
	want := []api.Ask{
		{Kind: api.AskSelf}, {Kind: api.AskNow}, {Kind: api.AskSend, To: pid(7, 2), Term: in(1)}, {Kind: api.AskRecv, Arms: arms, Wait: 3},
		{Kind: api.AskSpawn, Func: 1, Class: 2, Args: terms(in(1), in(2))}, {Kind: api.AskTimer, Wait: 9, Term: atom("m")}, {Kind: api.AskCancel, To: ref(105)},
		{Kind: api.AskLink, To: pid(1, 1)}, {Kind: api.AskUnlink, To: pid(2, 1)}, {Kind: api.AskMonitor, To: pid(3, 1)}, {Kind: api.AskDemon, To: ref(109)},
		{Kind: api.AskTrap, Term: yes()}, {Kind: api.AskName, Term: atom("bob")}, {Kind: api.AskWhere, Term: atom("ann")}, {Kind: api.AskOut, Term: in(13)}, {Kind: api.AskYield},
	}
	for _, budget := range []int{api.MaxCost, 9, 20, api.Budget, plenty} {
		s, l := begun(t, m, 0), &listener{rule: answersInTurn}
		steps, reds, end := through(t, m, s, budget, l)
		if x := exit(atom("got"), 35, 55); end.End != x.End || !same(end.Reason, x.Reason) || steps != x.Steps || reds != x.Reds {
			t.Errorf("of %d: %s, %d steps and %d reductions in all", budget, toldSlice(end), steps, reds)
		}
		if !slices.EqualFunc(l.asks, want, sameAsk) {
			t.Errorf("of %d: the world is asked %v", budget, l.kinds())
			for k := range min(len(want), len(l.asks)) {
				if !sameAsk(l.asks[k], want[k]) {
					t.Errorf("%s, not %s", toldAsk(l.asks[k]), toldAsk(want[k]))
				}
			}
		}
	}
}

// through runs an actor till it waits, fails or has ended: how many steps and reductions in all, and the last slice.
func through(t *testing.T, m api.Module, s *frame.Stack, budget int, l *listener) (steps, reds int, end api.Slice) {
	t.Helper()
	for range 100000 {
		x, e := slice.Run(m, s, budget, l.world())
		want(t, "Run", e, api.OK)
		steps, reds = steps+x.Steps, reds+x.Reds
		if x.End != api.EndYield {
			return steps, reds, x
		}
	}
	t.Fatal("it goes on")
	return
}

// What the world answers becomes what it has to: a term on the stack; locals, and where it goes on; nothing.
func TestSl1Answers(t *testing.T) {
	m := prog(t, asking)
	s := begun(t, m, 0)
	wantRun(t, "up to OpYield", m, s, plenty, &listener{rule: answersInTurn}, yield(33, 53))
	holds(t, "up to OpYield", s, view(nil, call(0, 33, 0, atom("got"), null())))

	m = prog(t, "recv 1 3 ? a -> 2 ? {$1, $0} -> 3; jump 3; jump 3; push 1; ret")
	for _, x := range []api.Answer{{Is: true, Arm: -1}, {Is: true, Arm: 0}, {Is: true, Arm: 1, Binds: []api.Bind{{Local: 1, Term: in(8)}, {Local: 0, Term: in(9)}}}} {
		s, locals := begun(t, m, 0), nulls(2)
		wantRun(t, "recv", m, s, api.MaxCost, saying(x), yield(1, 2))
		for _, b := range x.Binds {
			locals[b.Local] = b.Term
		}
		holds(t, "recv", s, view(nil, call(0, x.Arm+2, 0, locals...)))
	}
}

// Nothing is asked by instructions that ask for nothing, nor by those that end the actor, nor by one that is refused.
func TestSl1AsksNothing(t *testing.T) {
	for _, code := range []string{
		"push 1; push 2; add; push {a}; size; eq; if 7; jump 7; push 1; match 10 ? $0 -> 10; call 1; exit; func g 0 0; push 1; push 2; cons; ret", "push bye; exit", "push 1; ret",
		"call 1; ret; func g 0 0; push 1; ret", "push 1; push 2; send; ret", "push 1; trap; push 1; ret", "push 1; link; ret", "push -1; push 1; timer; ret",
	} {
		m, l := prog(t, code), late()
		_, e := slice.Run(m, begun(t, m, 0), plenty, l.world())
		want(t, code, e, api.OK)
		if len(l.asks) > 0 {
			t.Errorf("%s: the world is asked %v", code, l.kinds())
		}
	}
}

// A world that panics has answered nothing: the slice ends as it does by an answer without anything.
func TestR1WorldThatPanics(t *testing.T) {
	for _, x := range singles() {
		m := prog(t, x.code)
		v := view(x.terms, call(0, x.at, 0, nulls(2)...))
		s, other := load(t, v), load(t, v)
		want, _ := slice.Run(m, other, plenty, saying(api.Answer{}).world())
		times := 0
		got, e := slice.Run(m, s, plenty, func(api.Ask) api.Answer {
			times++
			panic("no world")
		})
		if e != api.OK || !sameSlice(got, want) || x.asks != 0 && times == 0 {
			t.Errorf("%s: %s, %d, not %s", x.code, toldSlice(got), e, toldSlice(want))
		}
		holds(t, x.code, s, other.View())
	}
}

// A world that changes the actor's stack, or runs it, does neither make a call panic nor go on for ever.
func TestR1WorldThatChangesTheStack(t *testing.T) {
	m := prog(t, asking)
	for name, change := range map[string]func(s *frame.Stack){
		"leaves": func(s *frame.Stack) { s.Push(in(1)); s.Leave() },
		"pops":   func(s *frame.Stack) { s.Pop(); s.Pop() },
		"fills": func(s *frame.Stack) {
			for s.Push(in(1)) == api.OK {
				continue
			}
		},
		"goes":      func(s *frame.Stack) { s.Go(1000) },
		"enters":    func(s *frame.Stack) { s.Enter(60, 0, 0) },
		"runs":      func(s *frame.Stack) { slice.Run(m, s, plenty, late().world()) },
		"leaves it": func(*frame.Stack) {},
	} {
		for _, budget := range []int{api.MaxCost, plenty} {
			s := begun(t, m, 0)
			for range 60 {
				x, e := slice.Run(m, s, budget, func(a api.Ask) api.Answer {
					change(s)
					return answersInTurn(5, a)
				})
				if e != api.OK && e != api.ErrEnded {
					t.Fatalf("a world that %s: %d", name, e)
				}
				if x.Reds > budget || e == api.OK && (x.Steps == 0 || x.End < api.EndYield || x.End > api.EndFault) {
					t.Fatalf("a world that %s: %s", name, toldSlice(x))
				}
			}
		}
	}
	s := begun(t, m, 0)
	wantRun(t, "a world that takes the frame away", m, s, plenty, &listener{rule: func(int, api.Ask) api.Answer {
		s.Push(in(1))
		s.Leave()
		return api.Answer{Term: in(1)}
	}}, fault("badcode", 1, 1))
	s = begun(t, m, 0)
	wantRun(t, "a world that fills the stack", m, s, plenty, &listener{rule: func(int, api.Ask) api.Answer {
		for s.Push(in(1)) == api.OK {
			continue
		}
		return api.Answer{Term: in(1)}
	}}, fault("toohigh", 1, 1))
}

// Calls end, and none panics, whatever they are given.
func TestR1WildArguments(t *testing.T) {
	loop := make([]api.Pattern, 1)
	loop[0] = api.Pattern{Kind: api.PatTuple, L: loop}
	f := func(l ...api.Instr) api.Module {
		return api.Module{Name: "m", Funcs: []api.Func{{Name: "f", Locals: 1, Code: l}}}
	}
	for _, m := range []api.Module{
		{}, {Name: "\xff"}, {Name: "m"}, f(), f(api.Instr{}), f(api.Instr{Op: api.OpPush, Term: endless()}, api.Instr{Op: api.OpRet}), f(api.Instr{Op: api.OpRecv, B: -1, Arms: []api.Arm{{Pattern: loop[0]}}}),
		f(slices.Repeat([]api.Instr{{Op: api.OpYield}}, 1025)...), {Name: "m", Funcs: make([]api.Func, 65)}, {Name: "m", Funcs: []api.Func{{Name: "f", Params: most, Locals: least}}}, prog(t, asking),
	} {
		for _, n := range []int{least, -1, 0, 1, 8, 64, most} {
			for _, l := range [][]api.Term{nil, row(1), terms(endless()), nulls(300), terms(api.Term{})} {
				slice.Solo(m, n, l, l, n)
				slice.Reds(m, n, l, l, n)
				slice.Solo(m, 0, nil, l, min(n, 100))
			}
			for fn := range 3 {
				for _, at := range []int{0, 3, 7, 1023} {
					s := load(t, view(row(9), call(fn, at, 2, nulls(fn)...)))
					slice.Run(m, s, n, saying(api.Answer{Is: true, Term: endless(), Arm: n, Binds: []api.Bind{{Local: n, Term: endless()}}}).world())
					slice.Run(m, s, n, nil)
				}
			}
		}
	}
}
