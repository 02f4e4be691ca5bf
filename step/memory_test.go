package step_test

import (
	"reflect"
	"slices"
	"testing"

	"carousel/api"
	"carousel/frame"
	"carousel/step"
)

func scribbled() api.Term { return atom("scribbled") }

// Who writes over the arguments behind Begin changes nothing of the stack; and the stack nothing of them.
func TestR3Begin(t *testing.T) {
	m := mod(fun("f", 2, 3, push(in(9)), opA(api.OpStore, 0), recv(0, -1)))
	room := row(5)
	s, e := step.Begin(m, 0, room[:2])
	want(t, "Begin", e, api.OK)
	scribble(room, scribbled())
	holds(t, "behind Begin", s, view(nil, call(0, 0, 0, in(1), in(2), null())))

	room = row(5)
	s, _ = step.Begin(m, 0, room[:2])
	wantDo(t, "push", m, s, none(), 1)
	wantDo(t, "store", m, s, none(), 1)
	holds(t, "behind store", s, view(nil, call(0, 2, 0, in(9), in(2), null())))
	if !sameTerms(room, row(5)) {
		t.Error("the arguments are changed:", told(room))
	}
	u, _ := step.Begin(m, 0, room[:2])
	holds(t, "another one", u, view(nil, call(0, 0, 0, in(1), in(2), null())))
}

// Who writes over what was asked changes nothing of the stack, of the module, and of what was asked ahead.
func TestR3Do(t *testing.T) {
	arms := []api.Arm{arm(local(0), 1), arm(whatever(), 2), arm(whatever(), 99)}[:2]
	for _, x := range []sample{{i: spawn(2, 1), terms: row(2)}, {i: ret(), terms: row(1)}, {i: recv(4, 5, arms...)}} {
		m := bed(x.i)
		v := view(append(row(3), x.terms...), call(3, here, 3, threeLocals()...))
		s, u := load(t, v), load(t, v)
		a, _, _ := step.Do(m, s)
		b, _, _ := step.Do(m, u)
		ask, behind := modelAsk(t, m, v)
		if !sameAsk(a, ask) || !sameAsk(b, ask) {
			t.Fatalf("%s: %s, %s, not %s", show(x.i, x.terms), toldAsk(a), toldAsk(b), toldAsk(ask))
		}
		scribble(a.Args, scribbled())
		scribble(a.Arms, api.Arm{To: 77})
		holds(t, show(x.i, x.terms), s, behind)
		holds(t, show(x.i, x.terms), u, behind)
		if !sameAsk(b, ask) {
			t.Errorf("two asks share their memory: %s", toldAsk(b))
		}
		if len(arms) != 2 || arms[0].To != 1 || arms[1].To != 2 || arms[:3][2].To != 99 {
			t.Error("what was asked shares its memory with the module:", arms)
		}
	}
}

// modelAsk is what the second way asks, and what it leaves.
func modelAsk(t *testing.T, m api.Module, v api.View) (api.Ask, api.View) {
	t.Helper()
	n, ask, _, e := modelOf(v).do(m)
	want(t, "the second way", e, api.OK)
	ask.Arms = slices.Clone(ask.Arms)
	return ask, n.view()
}

// Who writes over the binds, or the arms, behind Reply changes nothing of the stack.
func TestR3Reply(t *testing.T) {
	m := bed(recv(4, 5))
	v := view(row(2), call(3, here, 1, threeLocals()...))
	s := load(t, v)
	binds := []api.Bind{bind(0, in(7)), bind(1, in(8)), bind(2, in(9))}
	ask := received(1, 2)
	want(t, "Reply", step.Reply(m, s, ask, api.Answer{Is: true, Binds: binds[:2]}), api.OK)
	if !same(binds[0].Term, in(7)) || !same(binds[2].Term, in(9)) || len(ask.Arms) != 2 || ask.Arms[0].To != 1 {
		t.Error("what was handed in is changed:", binds, ask)
	}
	scribble(binds, bind(0, scribbled()))
	scribble(ask.Arms, api.Arm{To: 4})
	holds(t, "behind Reply", s, view(row(2), call(3, 1, 1, in(7), in(8), list(in(12)))))
}

// What lies behind a list's end is none of it.
func TestR3BehindAListsEnd(t *testing.T) {
	l := bed(op(api.OpYield)).Funcs
	code := slices.Repeat([]api.Instr{op(api.OpYield)}, 6)
	m := mod(l[:1]...)
	m.Funcs[0].Code = code[:3]
	v := func(fn, at int) api.View { return view(row(2), call(fn, at, 0, threeLocals()...)) }
	wantNotDo(t, "behind the last function", m, v(1, 0), api.ErrNone)
	wantNotDo(t, "behind the last instruction", m, v(0, 3), api.ErrNone)
	wantNotDo(t, "yield at the last place", m, v(0, 2), api.ErrNone)
	code[2] = opA(api.OpJump, 4)
	wantNotDo(t, "jump", m, v(0, 2), api.ErrNone)
	code[2] = calls(1)
	wantNotDo(t, "call", m, v(0, 2), api.ErrCode)
	code[2] = match(0, []api.Arm{arm(of(api.KindList), 1), arm(whatever(), 1)}[:1]...)
	wantAsModel(t, m, v(0, 2), api.OK)
	arms := []api.Arm{arm(whatever(), 1), arm(whatever(), 1)}[:1]
	wantNotReplied(t, "recv", m, v(0, 2), api.Ask{Kind: api.AskRecv, Arms: arms}, api.Answer{Is: true, Arm: 1}, api.ErrNone)
	binds := []api.Bind{bind(0, in(7)), bind(9, api.Term{})}[:1]
	wantReplied(t, "recv", m, v(0, 2), api.Ask{Kind: api.AskRecv, Arms: arms}, api.Answer{Is: true, Binds: binds}, view(row(2), call(0, 1, 0, in(7), atom("b"), list(in(12)))))
	if s, e := step.Begin(mod(rested("f", 1, 1)), 0, row(2)[:0]); s != nil || e != api.ErrArg {
		t.Error("Begin without its argument:", s, e)
	}
}

// What is handed in is not changed: neither the module, nor the ask, nor the answer.
func TestR3NothingIsChanged(t *testing.T) {
	for _, x := range samples() {
		m, other := bed(x.i), bed(x.i)
		for k := range m.Funcs {
			other.Funcs[k].Code = slices.Clone(m.Funcs[k].Code)
			for at := range other.Funcs[k].Code {
				other.Funcs[k].Code[at].Arms = slices.Clone(other.Funcs[k].Code[at].Arms)
			}
		}
		s := load(t, view(append(row(2), x.terms...), call(1, 0, 0), call(3, here, 1, threeLocals()...)))
		a, _, e := step.Do(m, s)
		want(t, show(x.i, x.terms), e, api.OK)
		step.Reply(m, s, a, api.Answer{Is: true, Arm: -1, Term: in(1)})
		if !reflect.DeepEqual(m, other) {
			t.Error("the module is changed by", show(x.i, x.terms))
		}
	}
}

// A tuple that is made has memory of its own: what comes on the stack later is none of it.
func TestR3TermsThatAreMade(t *testing.T) {
	for _, k := range []int{api.OpTuple, api.OpList} {
		kind := api.KindTuple + k - api.OpTuple
		s := load(t, view(row(5), call(3, here, 1, threeLocals()...)))
		wantDo(t, "of three", bed(opA(k, 3)), s, none(), 2)
		made, _ := s.Peek(0)
		for n := range 5 {
			want(t, "Push", s.Push(in(100+n)), api.OK)
		}
		want(t, "Set", s.Set(0, in(200)), api.OK)
		if !same(made, api.Term{Kind: kind, L: terms(in(3), in(4), in(5))}) {
			t.Error("what was made is changed:", told(terms(made)))
		}
	}
}

// Stacks of one module know nothing of one another; what one is told hangs on it alone.
func TestR4StacksByThemselves(t *testing.T) {
	m := mod(fun("f", 1, 2, opA(api.OpLoad, 0), push(in(1)), op(api.OpAdd), opA(api.OpStore, 0), op(api.OpSelf), opA(api.OpStore, 1), opA(api.OpJump, 0)))
	var ss []*frame.Stack
	for n := range 5 {
		s, e := step.Begin(m, 0, terms(in(100*n)))
		want(t, "Begin", e, api.OK)
		ss = append(ss, s)
	}
	for round := range 20 {
		for n, s := range ss {
			for range 4 {
				wantDo(t, "a step", m, s, none(), 1)
			}
			holds(t, "a stack", s, view(nil, call(0, 4, 0, in(100*n+round+1), lastPid(n, round))))
		}
		other := ss[0].Copy()
		for n, s := range ss {
			wantDo(t, "self", m, s, ask(api.AskSelf), 1)
			want(t, "Reply", step.Reply(m, s, ask(api.AskSelf), api.Answer{Term: pid(n, round+1)}), api.OK)
			wantDo(t, "store", m, s, none(), 1)
			wantDo(t, "jump", m, s, none(), 1)
		}
		holds(t, "a copy", other, view(nil, call(0, 4, 0, in(round+1), lastPid(0, round))))
		wantDo(t, "self of the copy", m, other, ask(api.AskSelf), 1)
	}
}

func lastPid(n, round int) api.Term {
	if round == 0 {
		return null()
	}
	return pid(n, round)
}

// Calls end, and none panics, whatever they are given; a call that is refused leaves the stack as it was.
func TestR1WildArguments(t *testing.T) {
	loop := make([]api.Pattern, 1)
	loop[0] = tup(loop...)
	long := slices.Repeat([]api.Instr{op(api.OpYield), opA(api.OpJump, 2000), opA(api.OpJump, 1024), calls(0), match(1500, arm(local(0), 1024)), opA(api.OpStore, 0)}, 500)
	for _, m := range []api.Module{{Name: "\xff"}, mod(fun("", least, most, long...)), mod(fun("f", most, least)), bed(match(0, arm(loop[0], 1))), bed(push(endless())), bed(api.Instr{Op: most, A: least, B: most, Term: endless(), Arms: []api.Arm{arm(loop[0], least)}})} {
		for _, n := range []int{least, -1, 0, 3, most} {
			if s, e := step.Begin(m, n, []api.Term{endless()}); s != nil && e != api.OK {
				t.Error("Begin:", s, e)
			}
		}
		for fn := range 5 {
			for _, at := range []int{0, 1, 2, 3, 4, 5, 1018, 1019, 1020, 1021, 1022, 1023} {
				v := view(row(9), call(fn, at, 2, threeLocals()...))
				step.Do(m, load(t, v))
				for kind := range 20 {
					for _, n := range []int{least, -1, 0, most} {
						a := api.Ask{Kind: kind, To: endless(), Term: endless(), Arms: []api.Arm{arm(loop[0], 1500)}, Wait: n, Func: n, Class: n}
						s := load(t, v)
						if e := step.Reply(m, s, a, api.Answer{Is: true, Term: endless(), Arm: n, Binds: []api.Bind{bind(0, in(1)), bind(n, endless())}}); e != api.OK {
							holds(t, "a Reply that is refused", s, v)
						}
					}
				}
			}
		}
	}
}

// Do of a great stack costs no more than its instruction: the rest is not gone through.
func TestDoKeepsToItsInstruction(t *testing.T) {
	great := slices.Repeat([]api.Term{list(nulls(1023)...)}, 200)
	m := bed(op(api.OpNow))
	s := load(t, view(great, append(slices.Repeat([]api.Frame{call(1, 0, 0, great[:32]...)}, 63), call(3, here, 200))...))
	few := testing.AllocsPerRun(10, func() {
		step.Do(m, s)
		s.Go(here)
	})
	if few > 5 {
		t.Error("Do makes memory anew:", few)
	}
}
