package step_test

import (
	"slices"
	"testing"

	"carousel/api"
	"carousel/step"
)

// wantReplied gives an answer, and asks for the stack behind it.
func wantReplied(t *testing.T, what string, m api.Module, v api.View, ask api.Ask, a api.Answer, u api.View) {
	t.Helper()
	wantRepliedAs(t, what, m, v, ask, a, api.OK, u)
}

// wantNotReplied asks for an error, and for the stack as it was.
func wantNotReplied(t *testing.T, what string, m api.Module, v api.View, ask api.Ask, a api.Answer, f api.Errno) {
	t.Helper()
	wantRepliedAs(t, what, m, v, ask, a, f, v)
}

func wantRepliedAs(t *testing.T, what string, m api.Module, v api.View, ask api.Ask, a api.Answer, f api.Errno, u api.View) {
	t.Helper()
	s := load(t, v)
	want(t, what, step.Reply(m, s, ask, a), f)
	holds(t, what, s, u)
}

// asksForTerm are those that are answered by a term.
func asksForTerm() []int {
	return []int{api.AskSelf, api.AskNow, api.AskSpawn, api.AskTimer, api.AskCancel, api.AskLink, api.AskUnlink, api.AskMonitor, api.AskDemon, api.AskName, api.AskWhere}
}

// asksForNothing are those that are answered by nothing.
func asksForNothing() []int { return []int{api.AskTrap, api.AskOut, api.AskExit, api.AskYield} }

// noAsks are kinds of none.
func noAsks() []int {
	return []int{least, -1, 0, api.AskNone, api.AskYield + 1, 20, 256 + api.AskSelf, 1<<32 + api.AskSelf, most}
}

// modules are such that the stacks here have an instruction there, or none.
func modules() []api.Module {
	return []api.Module{bed(op(api.OpYield)), bed(recv(1, 5)), lastPlace(ret()), mod(), {}, mod(rested("f", 0, 0))}
}

// full are a stack with so many terms in all.
func full(n int) api.View { return view(row(n), call(3, here, 1, threeLocals()...)) }

func withTop(v api.View, t api.Term) api.View {
	return view(append(slices.Clone(v.Terms), t), v.Frames...)
}

func TestP103Term(t *testing.T) {
	for _, m := range modules() { // nobody asks where the stack stands
		for _, kind := range asksForTerm() {
			for _, x := range kinds() {
				for _, n := range []int{1, 7, 255} {
					for _, is := range []bool{true, false} {
						a := api.Answer{Is: is, Term: x, Arm: 99, Binds: []api.Bind{{Local: 0, Term: in(1)}, {Local: 77}}}
						wantReplied(t, "a term", m, full(n), ask(kind), a, withTop(full(n), x))
					}
				}
				wantNotReplied(t, "a term too many", m, full(256), ask(kind), api.Answer{Term: x}, api.ErrHigh)
			}
			for _, w := range wrongs() {
				wantNotReplied(t, "a wrong term", m, full(7), ask(kind), api.Answer{Term: w.t}, w.e)
				wantNotReplied(t, "a wrong term too many", m, full(256), ask(kind), api.Answer{Term: w.t}, w.e)
			}
		}
	}
	for _, v := range beds(row(2), threeLocals()) { // the fields of the ask are nobody's business
		filled := api.Ask{Kind: api.AskLink, To: api.Term{Kind: 99}, Term: api.Term{Kind: 99}, Arms: []api.Arm{{}}, Wait: least, Func: -1, Class: 9, Args: []api.Term{{}}}
		wantReplied(t, "a term", bed(ret()), v, filled, api.Answer{Term: no()}, withTop(v, no()))
	}
}

func TestP103Nothing(t *testing.T) {
	for _, m := range modules() {
		for _, kind := range asksForNothing() {
			for _, n := range []int{1, 7, 255, 256} {
				for _, x := range []api.Term{in(1), {}, endless()} {
					filled := api.Ask{Kind: kind, Term: x, To: x, Arms: []api.Arm{arm(whatever(), 4)}}
					wantReplied(t, "nothing", m, full(n), filled, api.Answer{Is: true, Term: x, Arm: 5, Binds: []api.Bind{{Local: 0, Term: in(1)}}}, full(n))
					wantReplied(t, "nothing", m, full(n), ask(kind), api.Answer{}, full(n))
				}
			}
		}
	}
}

// The message that was sent is left, whatever the answer is.
func TestP103Send(t *testing.T) {
	for _, m := range modules() {
		for _, x := range kinds() {
			sent := api.Ask{Kind: api.AskSend, To: atom("a"), Term: x}
			for _, n := range []int{1, 7, 255} {
				wantReplied(t, "send", m, full(n), sent, api.Answer{}, withTop(full(n), x))
				wantReplied(t, "send", m, full(n), sent, api.Answer{Is: true, Term: atom("other"), Arm: 7}, withTop(full(n), x))
			}
			wantNotReplied(t, "send at MaxStack terms", m, full(256), sent, api.Answer{Term: in(1)}, api.ErrHigh)
		}
		for _, w := range wrongs() {
			wantNotReplied(t, "send of a wrong term", m, full(7), api.Ask{Kind: api.AskSend, Term: w.t}, api.Answer{Term: in(1)}, w.e)
			wantNotReplied(t, "send of a wrong term at MaxStack", m, full(256), api.Ask{Kind: api.AskSend, Term: w.t}, api.Answer{Term: in(1)}, w.e)
		}
	}
}

func bind(n int, t api.Term) api.Bind { return api.Bind{Local: n, Term: t} }

// received is an ask for a message with arms that lead to some places.
func received(to ...int) api.Ask {
	a := api.Ask{Kind: api.AskRecv, Wait: 5}
	for _, n := range to {
		a.Arms = append(a.Arms, arm(whatever(), n))
	}
	return a
}

func TestP103Recv(t *testing.T) {
	m := bed(recv(4, 5))
	for _, x := range []struct {
		ask    api.Ask
		a      api.Answer
		at     int
		locals []api.Term
	}{
		{received(1, 3, 5), api.Answer{Is: true, Arm: 0}, 1, nil},
		{received(1, 3, 5), api.Answer{Is: true, Arm: 1}, 3, nil},
		{received(1, 3, 5), api.Answer{Is: true, Arm: 2}, 5, nil},
		{received(1, 3, 5), api.Answer{Is: true, Arm: -1}, 4, nil},
		{received(), api.Answer{Is: true, Arm: -1}, 4, nil},
		{received(0), api.Answer{Is: true, Term: api.Term{Kind: 99}}, 0, nil}, // the term is nobody's business
		{received(-1, 3, 6), api.Answer{Is: true, Arm: 1}, 3, nil},            // nor are the other arms
		{received(-1, 6), api.Answer{Is: true, Arm: -1}, 4, nil},
		{received(here), api.Answer{Is: true}, here, nil},
		{received(1), api.Answer{Is: true, Binds: []api.Bind{bind(0, in(7))}}, 1, terms(in(7), atom("b"), list(in(12)))},
		{received(1), api.Answer{Is: true, Binds: []api.Bind{bind(2, in(7)), bind(0, atom("z"))}}, 1, terms(atom("z"), atom("b"), in(7))},
		{received(1), api.Answer{Is: true, Binds: []api.Bind{bind(1, in(7)), bind(1, in(8))}}, 1, terms(in(10), in(8), list(in(12)))},
		{received(1), api.Answer{Is: true, Binds: []api.Bind{bind(1, in(8)), bind(0, in(1)), bind(1, in(7))}}, 1, terms(in(1), in(7), list(in(12)))},
		{received(), api.Answer{Is: true, Arm: -1, Binds: []api.Bind{bind(0, in(7))}}, 4, terms(in(7), atom("b"), list(in(12)))},
		{received(1), api.Answer{Is: true, Binds: slices.Repeat([]api.Bind{bind(0, in(7))}, 100)}, 1, terms(in(7), atom("b"), list(in(12)))},
		{received(1, 3), api.Answer{Arm: 1, Binds: []api.Bind{bind(0, in(7))}}, here, nil}, // there is none: it waits
		{received(1, 3), api.Answer{Arm: 99, Binds: []api.Bind{{Local: 99}}}, here, nil},
		{received(99), api.Answer{}, here, nil},
		{received(), api.Answer{Arm: -1}, here, nil},
	} {
		if x.locals == nil {
			x.locals = threeLocals()
		}
		for _, above := range [][]api.Term{nil, row(3)} {
			to := beds(above, x.locals)
			for k, v := range beds(above, threeLocals()) {
				to[k].Frames[len(to[k].Frames)-1].At = x.at
				wantReplied(t, "recv", m, v, x.ask, x.a, to[k])
			}
		}
	}
	wantReplied(t, "recv at MaxStack", m, full(256), received(1), api.Answer{Is: true}, view(row(256), call(3, 1, 1, threeLocals()...)))
}

// The instruction that has A need not be a receive, as long as there is one.
func TestP103RecvAtWhatever(t *testing.T) {
	for _, x := range samples() {
		x.i.A = 4
		v := full(5)
		wantReplied(t, "time is up", bed(x.i), v, received(1), api.Answer{Is: true, Arm: -1}, view(v.Terms, call(3, 4, 1, threeLocals()...)))
		wantReplied(t, "a message", bed(x.i), v, received(1), api.Answer{Is: true}, view(v.Terms, call(3, 1, 1, threeLocals()...)))
	}
	for _, n := range noOps() {
		wantReplied(t, "time is up", bed(opA(n, 4)), full(5), received(1), api.Answer{Is: true, Arm: -1}, view(row(5), call(3, 4, 1, threeLocals()...)))
	}
}

func TestP103RecvRefused(t *testing.T) {
	m := bed(recv(4, 5))
	refused := func(f api.Errno, ask api.Ask, arm int, binds ...api.Bind) {
		t.Helper()
		for _, v := range beds(row(3), threeLocals()) {
			wantNotReplied(t, "recv", m, v, ask, api.Answer{Is: true, Arm: arm, Binds: binds}, f)
			wantReplied(t, "recv of none", m, v, ask, api.Answer{Arm: arm, Binds: binds}, v)
		}
	}
	for _, n := range []int{least, -2, 3, 4, most} {
		refused(api.ErrNone, received(1, 3, 5), n)
		refused(api.ErrNone, received(1, 3, 5), n, bind(0, api.Term{})) // ahead of the binds
		refused(api.ErrNone, received(1, 3, 5), n, bind(0, in(1)))
	}
	refused(api.ErrNone, received(), 0)
	refused(api.ErrNone, received(1), 1)
	for _, n := range []int{least, -1, 3, 4, 31, 32, most} {
		refused(api.ErrNone, received(1), 0, bind(n, in(1)))
		refused(api.ErrNone, received(1), -1, bind(n, in(1)))
		refused(api.ErrNone, received(1), 0, bind(n, api.Term{})) // ahead of the term
		refused(api.ErrNone, received(1), 0, bind(0, in(1)), bind(n, in(1)))
		refused(api.ErrNone, received(1), 0, bind(n, in(1)), bind(0, api.Term{})) // the first one is told
		refused(api.ErrTerm, received(1), 0, bind(0, api.Term{}), bind(n, in(1)))
		refused(api.ErrTerm, received(99), 0, bind(0, api.Term{}), bind(n, in(1)))
	}
	for _, w := range wrongs() {
		refused(w.e, received(1), 0, bind(0, w.t))
		refused(w.e, received(1), -1, bind(2, w.t))
		refused(w.e, received(1), 0, bind(0, in(1)), bind(0, w.t))
		refused(w.e, received(1), 0, bind(0, w.t), bind(0, in(1)))
		refused(w.e, received(-1), 0, bind(0, w.t)) // ahead of the place
		refused(w.e, received(6), 0, bind(1, in(1)), bind(0, w.t))
	}
	for _, to := range []int{least, -1, 6, 7, 1023, 1024, most} {
		refused(api.ErrNone, received(1, to), 1)
		refused(api.ErrNone, received(to, 1), 0, bind(0, in(7)))
		wantNotReplied(t, "time is up", bed(recv(to, 5)), full(3), received(1), api.Answer{Is: true, Arm: -1}, api.ErrNone)
		wantNotReplied(t, "time is up", bed(recv(to, 5)), full(3), received(1), api.Answer{Is: true, Arm: -1, Binds: []api.Bind{bind(0, in(1))}}, api.ErrNone)
		wantReplied(t, "a message", bed(recv(to, 5)), full(3), received(1), api.Answer{Is: true}, view(row(3), call(3, 1, 1, threeLocals()...)))
	}
}

// Where there is no instruction nothing is received, but for waiting on.
func TestP103RecvAtNoInstruction(t *testing.T) {
	at := func(fn, at int) api.View { return view(row(3), call(1, 0, 0), call(fn, at, 1, threeLocals()...)) }
	m := bed(recv(4, 5))
	for _, v := range []api.View{at(4, here), at(63, 1023), at(3, 6), at(3, 1023), at(0, 1)} {
		for _, n := range []int{-1, 0, 9} {
			wantNotReplied(t, "recv", m, v, received(1), api.Answer{Is: true, Arm: n}, api.ErrNone)
			wantNotReplied(t, "recv", m, v, received(1), api.Answer{Is: true, Arm: n, Binds: []api.Bind{{}}}, api.ErrNone)
			wantReplied(t, "recv of none", m, v, received(1), api.Answer{Arm: n}, v)
		}
	}
	for _, m := range []api.Module{{}, mod(fun("f", 0, 0))} {
		wantNotReplied(t, "recv", m, view(nil, call(0, 0, 0)), received(0), api.Answer{Is: true}, api.ErrNone)
		wantReplied(t, "recv of none", m, view(nil, call(0, 0, 0)), received(0), api.Answer{}, view(nil, call(0, 0, 0)))
	}
}

func TestP103NoAsk(t *testing.T) {
	for _, m := range modules() {
		for _, kind := range noAsks() {
			for _, a := range []api.Answer{{}, {Is: true, Term: in(1)}} {
				wantNotReplied(t, "no ask", m, full(3), ask(kind), a, api.ErrArg)
				wantNotReplied(t, "no ask", m, full(3), api.Ask{Kind: kind, Term: in(1), Arms: []api.Arm{arm(whatever(), 1)}}, a, api.ErrArg)
				wantNotReplied(t, "no ask, no frame", m, view(row(3)), ask(kind), a, api.ErrArg)
				wantNotReplied(t, "no ask, no frame", m, view(nil), ask(kind), a, api.ErrArg)
			}
		}
	}
}

func TestP103NoFrameAndNoStack(t *testing.T) {
	for _, m := range modules() {
		for kind := range 21 {
			for _, a := range []api.Answer{{}, {Is: true, Term: in(1)}, {Is: true, Term: api.Term{}, Arm: 5}} {
				for _, s := range strangers(t) {
					want(t, "Reply to no stack", step.Reply(m, s, ask(kind), a), api.ErrArg)
				}
				if kind < api.AskSelf || kind > api.AskYield {
					continue
				}
				for _, n := range []int{0, 3, 256} {
					wantNotReplied(t, "no frame", m, view(row(n)), api.Ask{Kind: kind, Term: in(1)}, a, api.ErrEmpty)
				}
			}
		}
	}
}
