package slice_test

import (
	"slices"
	"strings"
	"testing"

	"carousel/api"
	"carousel/code"
	"carousel/slice"
)

// plenty is a budget that none of the programs here spends, but for those that go on for ever.
const plenty = 10000

// The ways in which a slice ends, of actors whom the world tells nothing.
func TestSl1Ends(t *testing.T) {
	hundred := strings.Repeat("push 1; ", 100)
	for _, x := range []struct {
		code string
		end  api.Slice
	}{
		{"push 5; out; push 1; ret", exit(normal(), 4, 5)},
		{"push oops; ret", exit(normal(), 2, 2)},
		{"push oops; exit", exit(atom("oops"), 2, 2)},
		{"push 1; push 2; push {a, [b, 3]}; exit", exit(tuple(atom("a"), list(atom("b"), in(3))), 4, 4)},
		{"push 1; push 2; push 3; ret", exit(normal(), 4, 4)},
		{"call 1; ret; func g 0 0; push 7; ret", exit(normal(), 4, 5)},
		{"call 1; exit; func g 0 0; push 7; ret", exit(in(7), 4, 5)},
		{"call 1; ret; func g 0 0; push bye; exit", exit(atom("bye"), 3, 4)},
		{"push 4; push 9; call 1; ret; func g 2 2; load 0; load 1; sub; exit", exit(in(-5), 7, 8)},
		{"push a; push 1; add; ret", fault("badkind", 3, 3)},
		{"push 1; push 2; send; ret", fault("badkind", 3, 3)},
		{"push 1; trap; push 1; ret", fault("badkind", 2, 2)},
		{"push 1; if 0; push 1; ret", fault("badkind", 2, 2)},
		{"push {a, b}; push 2; elem; ret", fault("badrange", 3, 3)},
		{"push -1; push a; timer; ret", fault("badrange", 3, 3)},
		{"push 1; push 0; div; ret", fault("badzero", 3, 3)},
		{"push {}; dup 0; tuple 2; jump 1", fault("toobig", 1+9*3+2, 1+9*4+2)},
		{"push []; list 1; jump 1", fault("toobig", 1+63*2+1, 1+63*3+1)},
		{"call 0; ret", fault("toodeep", 64, 63*2+1)},
		{hundred + "call 0; ret", fault("toohigh", 256+2+1, 256+2*2+1)},
		{"recv 0 -1", wait(1, 2)},
		{"push 1; out; push 2; recv 4 5 ? a -> 4; ret", wait(4, 6)},
		{"call 1; ret; func g 0 0; recv 0 -1 ? a -> 0", wait(2, 4)},
		{"yield; jump 0", yield(1, 1)},
		{"push 1; pop; yield; jump 0", yield(3, 3)},
		{"call 1; ret; func g 0 0; yield; push 1; ret", yield(2, 3)},
		{"jump 0", yield(plenty-7, plenty-7)},
	} {
		m := prog(t, x.code)
		wantRun(t, x.code, m, begun(t, m, 0), plenty, saying(api.Answer{}), x.end)
	}
}

// What the world answers may be refused, too: the instruction has its cost then.
func TestSl1ReplyRefused(t *testing.T) {
	recv := "recv 1 5 ? $0 -> 1; push 1; ret"
	arms := func(n int, l ...api.Bind) api.Answer { return api.Answer{Is: true, Arm: n, Binds: l} }
	for _, x := range []struct {
		code   string
		answer api.Answer
		end    api.Slice
	}{
		{"self; ret", api.Answer{}, fault("badcode", 1, 1)},
		{"now; ret", api.Answer{Term: in(api.MaxInt + 1)}, fault("badcode", 1, 1)},
		{"now; ret", api.Answer{Term: big()}, fault("toobig", 1, 1)},
		{"spawn 0 1; ret", api.Answer{Term: endless()}, fault("toobig", 1, 8)},
		{"push 1; push 2; timer; ret", api.Answer{Term: tuple(api.Term{})}, fault("badcode", 3, 4)},
		{"push #1; cancel; ret", api.Answer{}, fault("badcode", 2, 3)},
		{"push <1.1>; link; ret", api.Answer{}, fault("badcode", 2, 3)},
		{"push <1.1>; unlink; ret", api.Answer{}, fault("badcode", 2, 3)},
		{"push <1.1>; monitor; ret", api.Answer{}, fault("badcode", 2, 3)},
		{"push #1; demon; ret", api.Answer{}, fault("badcode", 2, 3)},
		{"push bob; name; ret", api.Answer{}, fault("badcode", 2, 3)},
		{"push bob; where; ret", api.Answer{}, fault("badcode", 2, 3)},
		{recv, arms(1), fault("badcode", 1, 2)},
		{recv, arms(-2), fault("badcode", 1, 2)},
		{recv, arms(0, api.Bind{Local: 2, Term: in(1)}), fault("badcode", 1, 2)},
		{recv, arms(0, api.Bind{Local: -1, Term: in(1)}), fault("badcode", 1, 2)},
		{recv, arms(0, api.Bind{Local: 0}), fault("badcode", 1, 2)},
		{recv, arms(0, api.Bind{Local: 0, Term: big()}), fault("toobig", 1, 2)},
		{recv, arms(0, api.Bind{Local: 0, Term: in(1)}), exit(normal(), 3, 4)},
		{recv, arms(-1), exit(normal(), 3, 4)},
		{"push bob; push 2; send; ret", api.Answer{Term: big(), Arm: 9}, exit(normal(), 4, 7)}, // of these no answer is read
		{"push true; trap; push 1; ret", api.Answer{Term: big(), Arm: 9}, exit(normal(), 4, 4)},
		{"push 1; out; push 1; ret", api.Answer{Term: big(), Arm: 9}, exit(normal(), 4, 5)},
		{"yield; push 1; ret", api.Answer{Term: big(), Arm: 9}, yield(1, 1)},
	} {
		m := prog(t, x.code)
		wantRun(t, x.code, m, begun(t, m, 0), plenty, saying(x.answer), x.end)
	}
}

// single is one instruction, which stands at a place, with terms above the base: by a budget of MaxCost a slice does just one.
type single struct {
	code  string
	at    int
	terms []api.Term
	cost  int
	asks  int        // what is asked of the world, or 0
	bad   []api.Term // with these it is refused; nil: nothing that may be there is
}

// singles are of all operations, with what they cost.
func singles() []single {
	two, a, p, r := row(2), terms(atom("a")), terms(pid(1, 1)), terms(ref(1))
	l := []single{
		{"push 1; ret", 0, nil, 1, 0, nil}, {"push 1; pop; push 1; ret", 1, two, 1, 0, nil}, {"push 1; dup 0; ret", 1, two, 1, 0, nil},
		{"load 1; ret", 0, nil, 1, 0, nil}, {"push 1; store 1; push 1; ret", 1, two, 1, 0, nil}, {"push 1; kind int; ret", 1, two, 1, 0, nil},
		{"push true; not; ret", 1, terms(yes()), 1, 0, a}, {"tuple 0; ret", 0, nil, 2, 0, nil}, {"push 1; push 1; push 1; list 3; ret", 3, row(3), 2, 0, row(2)},
		{"push {}; push 0; elem; ret", 2, terms(tuple(in(1)), in(0)), 1, 0, terms(tuple(), in(0))}, {"push []; size; ret", 1, terms(list()), 1, 0, a},
		{"push 1; push []; cons; ret", 2, terms(in(1), list()), 1, 0, two}, {"push []; head; ret", 1, terms(list(in(1))), 1, 0, terms(list())}, {"push []; tail; ret", 1, terms(list(in(1))), 1, 0, a},
		{"jump 1; push 1; ret", 0, nil, 1, 0, nil}, {"push true; if 2; push 1; ret", 1, terms(yes()), 1, 0, a}, {"push true; if 2; push 1; ret", 1, terms(no()), 1, 0, a},
		{"push 1; match 2 ? a -> 2; push 1; ret", 1, a, 2, 0, nil}, {"push 1; match 2 ? a -> 2; push 1; ret", 1, two, 2, 0, nil},
		{"call 0; ret", 0, nil, 2, 0, nil}, {"push 1; ret", 1, terms(in(1)), 1, 0, nil},
		{"self; ret", 0, nil, 1, api.AskSelf, nil}, {"now; ret", 0, nil, 1, api.AskNow, nil},
		{"push 1; push 1; send; ret", 2, terms(pid(1, 1), in(1)), 4, api.AskSend, two}, {"push 1; push 1; send; ret", 2, terms(atom("a"), in(1)), 4, api.AskSend, two},
		{"recv 0 0 ? _ -> 0", 0, nil, 2, api.AskRecv, nil}, {"spawn 0 2; ret", 0, nil, 8, api.AskSpawn, nil},
		{"push 1; push 1; timer; ret", 2, two, 2, api.AskTimer, terms(in(-1), in(1))}, {"push 1; cancel; ret", 1, r, 2, api.AskCancel, p},
		{"push 1; link; ret", 1, p, 2, api.AskLink, a}, {"push 1; unlink; ret", 1, p, 2, api.AskUnlink, a}, {"push 1; monitor; ret", 1, p, 2, api.AskMonitor, a}, {"push 1; demon; ret", 1, r, 2, api.AskDemon, a},
		{"push 1; trap; push 1; ret", 1, terms(yes()), 1, api.AskTrap, a}, {"push 1; name; ret", 1, a, 2, api.AskName, p}, {"push 1; where; ret", 1, a, 2, api.AskWhere, p},
		{"push 1; out; push 1; ret", 1, two, 2, api.AskOut, nil}, {"push 1; exit", 1, two, 1, 0, nil}, {"yield; push 1; ret", 0, nil, 1, api.AskYield, nil},
	}
	for _, name := range []string{"add", "sub", "mul", "div", "rem", "turn"} {
		l = append(l, single{"push 1; push 1; " + name + "; ret", 2, row(2), 1, 0, terms(in(1), atom("a"))})
	}
	for _, name := range []string{"eq", "less"} {
		l = append(l, single{"push 1; push 1; " + name + "; ret", 2, row(2), 1, 0, nil})
	}
	for _, name := range []string{"neg", "conj"} {
		l = append(l, single{"push 1; " + name + "; ret", 1, row(1), 1, 0, a})
	}
	return l
}

// Each operation counts one step, and its cost; it asks the world what it asks, once; refused it counts one reduction, whatever it costs.
func TestSl1EachOperation(t *testing.T) {
	seen := map[int]bool{}
	for _, x := range singles() {
		m := prog(t, x.code)
		i := m.Funcs[0].Code[x.at]
		seen[i.Op] = true
		name, _ := code.Op(i.Op)
		end := yield(1, x.cost)
		switch {
		case i.Op == api.OpExit:
			end = exit(x.terms[len(x.terms)-1], 1, x.cost)
		case i.Op == api.OpRet:
			end = exit(normal(), 1, x.cost)
		}
		l := late()
		wantRun(t, name, m, load(t, view(x.terms, call(0, x.at, 0, nulls(2)...))), api.MaxCost, l, end)
		if x.asks == 0 && len(l.asks) > 0 || x.asks != 0 && !slices.Equal(l.kinds(), []int{x.asks}) {
			t.Errorf("%s asks %v, not %d", name, l.kinds(), x.asks)
		}
		if x.bad != nil {
			v := view(x.bad, call(0, x.at, 0, nulls(2)...))
			s, l := load(t, v), late()
			got, e := slice.Run(m, s, plenty, l.world())
			if e != api.OK || got.End != api.EndFault || got.Steps != 1 || got.Reds != 1 || len(l.asks) > 0 {
				t.Errorf("%s of %s: %s, %d, asks %v", name, told(x.bad...), toldSlice(got), e, l.kinds())
			}
			holds(t, name+" that was refused", s, v)
		}
	}
	for n := api.OpPush; n <= api.OpYield; n++ {
		if name, _ := code.Op(n); !seen[n] {
			t.Error("nothing is asked of", name)
		}
	}
}

// A stack that is none of the module's fails, as Do refuses it: as the first instruction and as a later one.
func TestSl1StrangeStacks(t *testing.T) {
	m := prog(t, "push 1; pop; load 1; pop; push 1; ret; func g 1 1; load 0; ret")
	for _, x := range []struct {
		v   api.View
		end api.Slice
	}{
		{view(nil, call(0, 1, 0)), fault("badcode", 1, 1)},                       // nothing to pop
		{view(row(3), call(0, 1, 3)), fault("badcode", 1, 1)},                    // nothing above the base
		{view(nil, call(2, 0, 0)), fault("badcode", 1, 1)},                       // no such function
		{view(nil, call(0, 6, 0)), fault("badcode", 1, 1)},                       // no such instruction
		{view(nil, call(0, 0, 0, in(1))), fault("badcode", 3, 3)},                // no local 1
		{view(nil, call(9, 0, 0), call(1, 0, 0, in(1))), fault("badcode", 3, 3)}, // no function to go on in
		{view(nil, call(1, 9, 0), call(0, 4, 0)), fault("badcode", 3, 3)},        // no instruction to go on at
		{view(nil, call(0, 2, 0, row(2)...), call(1, 0, 0, in(1))), exit(normal(), 6, 6)},
	} {
		wantRun(t, toldView(x.v), m, load(t, x.v), plenty, late(), x.end)
	}
}

// A receive that waits stands where it stood: it is done anew in the next slice, with its cost, till there is something.
func TestSl1WaitsAnew(t *testing.T) {
	m := prog(t, "push 7; recv 4 9 ? {a, $1} -> 2; load 1; ret; push late; exit")
	s := begun(t, m, 0)
	l := saying(api.Answer{})
	waiting := view(terms(in(7)), call(0, 1, 0, null(), null()))
	wantRun(t, "the first slice", m, s, 8, l, yield(1, 1))
	for range 3 {
		holds(t, "ahead of a wait", s, waiting)
		wantRun(t, "a slice that waits", m, s, plenty, l, wait(1, 2))
	}
	holds(t, "behind the waits", s, waiting)
	if len(l.asks) != 3 {
		t.Errorf("three slices ask %d times", len(l.asks))
	}
	for _, a := range l.asks {
		if !sameAsk(a, api.Ask{Kind: api.AskRecv, Wait: 9, Arms: m.Funcs[0].Code[1].Arms}) {
			t.Error("a wait asks", toldAsk(a))
		}
	}
	other := s.Copy()
	wantRun(t, "a message", m, s, plenty, saying(api.Answer{Is: true, Binds: []api.Bind{{Local: 1, Term: in(5)}}}), exit(normal(), 3, 4))
	holds(t, "a message", s, view(terms(in(5))))
	wantRun(t, "the time is up", m, other, plenty, late(), exit(atom("late"), 3, 4))
}

// Behind OpYield the next slice goes on behind it.
func TestSl1YieldsAndGoesOn(t *testing.T) {
	m := prog(t, "yield; push 1; yield; push 2; yield; add; ret")
	s, l := begun(t, m, 0), saying(api.Answer{})
	for n, x := range []api.Slice{yield(1, 1), yield(2, 2), yield(2, 2), exit(normal(), 2, 2)} {
		wantRun(t, "slice "+string(rune('0'+n)), m, s, plenty, l, x)
	}
	holds(t, "behind the end", s, view(terms(in(3))))
	if !slices.Equal(l.kinds(), []int{api.AskYield, api.AskYield, api.AskYield}) {
		t.Error("the world is asked", l.kinds())
	}
	_, e := slice.Run(m, s, plenty, l.world())
	want(t, "behind the end", e, api.ErrEnded)
}

// An actor that failed, or ended by OpExit, stands where it did.
func TestSl1BehindAnEnd(t *testing.T) {
	m := prog(t, "push 1; push a; add; ret")
	s := begun(t, m, 0)
	wantRun(t, "a fault", m, s, plenty, late(), fault("badkind", 3, 3))
	holds(t, "behind a fault", s, view(terms(in(1), atom("a")), call(0, 2, 0, nulls(2)...)))
	wantRun(t, "a fault once more", m, s, plenty, late(), fault("badkind", 1, 1))
	m = prog(t, "push first; push second; exit")
	s = begun(t, m, 0)
	wantRun(t, "an exit", m, s, plenty, late(), exit(atom("second"), 3, 3))
	wantRun(t, "the next exit", m, s, plenty, late(), exit(atom("first"), 1, 1))
	wantRun(t, "nothing is left", m, s, plenty, late(), fault("badcode", 1, 1))
}
