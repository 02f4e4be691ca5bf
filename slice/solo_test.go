package slice_test

import (
	"fmt"
	"slices"
	"testing"

	"carousel/api"
	"carousel/slice"
)

// exits is what comes of an actor that exits by a term, or ends with one, having told and sent nothing.
func exits(x api.Term) api.Meaning { return api.Meaning{End: api.EndExit, Term: x} }

func post(n, gen int, x api.Term) api.Post { return api.Post{To: api.Pid{N: n, Gen: gen}, Term: x} }

// What the world of an actor by itself answers to each kind of ask.
func TestSl2World(t *testing.T) {
	full := exits(atom("full"))
	for _, x := range []struct {
		code string
		x    api.Meaning
		reds int
	}{
		{"self; ret", exits(pid(0, 1)), 2},
		{"now; ret", exits(in(0)), 2},
		{"push <3.1>; push hi; send; ret", api.Meaning{End: api.EndExit, Term: atom("hi"), Posts: []api.Post{post(3, 1, atom("hi"))}}, 7},
		{"push bob; push hi; send; ret", exits(atom("hi")), 7},
		{"push <3.1>; push 1; send; push <3.2>; push 2; send; push ann; push 3; send; push <0.1>; push 4; send; tuple 4; ret",
			api.Meaning{End: api.EndExit, Term: tuple(in(1), in(2), in(3), in(4)), Posts: []api.Post{post(3, 1, in(1)), post(3, 2, in(2)), post(0, 1, in(4))}}, 27},
		{"self; push a; send; pop; recv 0 -1 ? _ -> 0", api.Meaning{End: api.EndWait, Posts: []api.Post{post(0, 1, atom("a"))}}, 9},
		{"push 5; out; push {a, [b]}; out; push nil; out; push 1; ret", api.Meaning{End: api.EndExit, Term: in(1), Outs: terms(in(5), tuple(atom("a"), list(atom("b"))), null())}, 11},
		{"spawn 0 0; ret", full, 9},
		{"spawn 0 2; ret", full, 9},
		{"push 0; push hi; timer; ret", full, 5},
		{"push 0; push hi; timer; pop; recv 0 -1 ? hi -> 0", api.Meaning{End: api.EndWait}, 7},
		{"push <0.1>; monitor; ret", full, 4},
		{"push <3.1>; monitor; ret", full, 4},
		{"push <3.1>; monitor; pop; recv 0 -1 ? _ -> 0", api.Meaning{End: api.EndWait}, 6},
		{"push #1; cancel; ret", exits(null()), 4},
		{"push bob; where; ret", exits(null()), 4},
		{"push bob; name; pop; push bob; where; ret", exits(null()), 8},
		{"push bob; name; ret", exits(no()), 4},
		{"push <3.1>; link; ret", exits(no()), 4},
		{"push <3.1>; unlink; ret", exits(no()), 4},
		{"push #1; demon; ret", exits(no()), 4},
		{"push true; trap; push false; trap; push ok; ret", exits(atom("ok")), 6},
		{"yield; yield; now; ret", exits(in(0)), 4},
		{"recv 1 0 ? a -> 0; push late; ret", exits(atom("late")), 4},
		{"recv 1 1000000 ? a -> 0; push late; ret", exits(atom("late")), 4},
		{"recv 1 0; now; ret", exits(in(0)), 4},
	} {
		wantSolo(t, x.code, prog(t, x.code), nil, nil, 10, x.x, x.reds)
	}
}

// Its inbox: the first message that matches an arm goes out, from the middle too, and the others stay as they stood.
func TestSl2Inbox(t *testing.T) {
	a, b, c := atom("a"), atom("b"), atom("c")
	takes := func(p string) string { return "recv 3 0 ? " + p + " -> 1; load 0; ret; push none; ret" }
	drains := "recv 4 0 ? $0 -> 1; load 0; out; jump 0; push end; ret"
	for _, x := range []struct {
		code  string
		inbox []api.Term
		x     api.Meaning
		reds  int
	}{
		{"recv 0 -1 ? a -> 1; push 1; ret", terms(b), api.Meaning{End: api.EndWait, Left: 1}, 2},
		{"recv 0 -1 ? a -> 1; push 1; ret", nil, api.Meaning{End: api.EndWait}, 2},
		{"recv 0 -1", terms(a, b), api.Meaning{End: api.EndWait, Left: 2}, 2},
		{"recv 0 -1 ? a -> 1; push 1; ret", terms(b, a, a), api.Meaning{End: api.EndExit, Term: in(1), Left: 2}, 4},
		{takes("$0"), terms(b, a, c), api.Meaning{End: api.EndExit, Term: b, Left: 2}, 4},
		{takes("{ping, $0}"), terms(a, tuple(atom("ping"), in(1)), tuple(atom("ping"), in(2)), b), api.Meaning{End: api.EndExit, Term: in(1), Left: 3}, 4},
		{takes("{ping, $0}"), terms(a, b, c, b, a, c, c, tuple(atom("ping"), in(1))), api.Meaning{End: api.EndExit, Term: in(1), Left: 7}, 4},
		{takes("{ping, $0}"), terms(a, b, c), api.Meaning{End: api.EndExit, Term: atom("none"), Left: 3}, 4},
		{takes("[$0 | _]"), terms(list(), list(in(4)), list(in(5))), api.Meaning{End: api.EndExit, Term: in(4), Left: 2}, 4},
		{drains, terms(a, b, c), api.Meaning{End: api.EndExit, Term: atom("end"), Outs: terms(a, b, c)}, 3*6 + 4},
		{drains, nil, api.Meaning{End: api.EndExit, Term: atom("end")}, 4},
		{"recv 1 5 ? b -> 0 ? {$0, _} -> 0; " + "recv 5 0 ? $0 -> 2; load 0; out; jump 1; push end; ret", terms(a, b, tuple(in(1), in(2)), c, b, a, tuple(b), b), // those that match go out, whichever arm; then the others in their order
			api.Meaning{End: api.EndExit, Term: atom("end"), Outs: terms(a, c, a, tuple(b))}, 5*2 + 4*6 + 4},
	} {
		wantSolo(t, x.code+" of "+told(x.inbox...), prog(t, x.code), nil, x.inbox, 100, x.x, x.reds)
	}
}

// A message ahead comes before an arm ahead; of the arms that it matches the first one leads on, with its locals.
func TestSl2FirstArm(t *testing.T) {
	a, b, c := atom("a"), atom("b"), atom("c")
	m := prog(t, "recv 5 0 ? {$0, $1} -> 1 ? :int -> 3; load 1; ret; push int; ret; push late; ret")
	for _, x := range []struct {
		inbox []api.Term
		left  api.Term
	}{
		{terms(a, in(5), tuple(b, c)), atom("int")}, {terms(a, tuple(b, c), in(5)), c}, {terms(tuple(b, a), a, in(5)), a}, {terms(a, a, in(6)), atom("int")},
	} {
		wantSolo(t, "two arms of "+told(x.inbox...), m, nil, x.inbox, 10, api.Meaning{End: api.EndExit, Term: x.left, Left: 2}, 4)
	}
	wantSolo(t, "two arms that nothing matches", m, nil, terms(a, tuple(b), tuple(a, b, c)), 10, api.Meaning{End: api.EndExit, Term: atom("late"), Left: 3}, 4)

	m = prog(t, "recv 0 -1 ? c -> 1 ? $0 -> 3 ? b -> 5; push one; ret; load 0; ret; push three; ret")
	wantSolo(t, "b, c", m, nil, terms(b, c), 10, api.Meaning{End: api.EndExit, Term: b, Left: 1}, 4)
	wantSolo(t, "c, b", m, nil, terms(c, b), 10, api.Meaning{End: api.EndExit, Term: atom("one"), Left: 1}, 4)
}

// A message is found wherever it stands in a long inbox, and all others stay in their order.
func TestSl2LongInbox(t *testing.T) {
	m := prog(t, "recv 2 0 ? {$0} -> 1; jump 2; recv 5 0 ? $1 -> 3; load 1; jump 6; push none; load 0; tuple 2; ret")
	for n := range 70 {
		for at := range n {
			inbox := row(n)
			inbox[at] = tuple(in(at))
			first := in(0)
			x := api.Meaning{End: api.EndExit, Left: n - 2}
			switch {
			case n == 1:
				first, x.Left = atom("none"), 0
			case at == 0:
				first = in(1)
			}
			x.Term = tuple(first, in(at))
			got, e := slice.Solo(m, 0, nil, inbox, 10)
			if e != api.OK || !sameMeaning(got, x) {
				t.Fatalf("%d of %d: %s, %d, not %s", at, n, toldMeaning(got), e, toldMeaning(x))
			}
		}
	}
	drains := prog(t, "recv 4 0 ? {$0} -> 1; load 0; out; jump 0; recv 8 0 ? $0 -> 5; load 0; out; jump 4; push end; ret")
	inbox := row(2000)
	var outs []api.Term
	for k := 6; k < 2000; k += 7 {
		inbox[k] = tuple(in(k))
		outs = append(outs, in(k))
	}
	for k, x := range inbox {
		if k%7 != 6 {
			outs = append(outs, x)
		}
	}
	wantSolo(t, "all of a long inbox", drains, nil, inbox, api.MaxFuel, api.Meaning{End: api.EndExit, Term: atom("end"), Outs: outs}, 2000*6+2+4)
	const many = 200000
	throws := prog(t, "recv 1 0 ? _ -> 0; push end; ret")
	wantSolo(t, "a very long inbox", throws, nil, row(many), api.MaxFuel, exits(atom("end")), 2*many+4)
	wantSolo(t, "a part of a very long inbox", throws, nil, row(many), 10, api.Meaning{End: api.EndYield, Left: many - 290}, 580)
}

// Term tells what the first call left, or by what the actor exited, or why it failed.
func TestSl2Term(t *testing.T) {
	for _, x := range []struct {
		code string
		x    api.Meaning
		reds int
	}{
		{"push normal; exit", exits(atom("normal")), 2},
		{"push {b, 1}; exit", exits(tuple(atom("b"), in(1))), 2},
		{"push {b, 1}; ret", exits(tuple(atom("b"), in(1))), 2},
		{"push nil; ret", exits(null()), 2},
		{"push 1; push 2; push 3; ret", exits(in(3)), 4},
		{"push 1; call 1; ret; func g 0 0; push 9; ret", exits(in(9)), 6},
		{"push 1; call 1; ret; func g 0 0; push 9; exit", exits(in(9)), 5},
		{"push 1; push 0; rem; ret", api.Meaning{End: api.EndFault, Term: atom("badzero")}, 3},
		{"push 7; out; push 1; push a; mul; ret", api.Meaning{End: api.EndFault, Term: atom("badkind"), Outs: row(8)[7:]}, 6},
		{"call 0; ret", api.Meaning{End: api.EndFault, Term: atom("toodeep")}, 127},
		{"push 7; recv 0 -1; func g 0 0; jump 0", api.Meaning{End: api.EndWait}, 3},
		{"jump 0", api.Meaning{End: api.EndYield}, 57 * 10},
	} {
		wantSolo(t, x.code, prog(t, x.code), nil, nil, 10, x.x, x.reds)
	}
}

// The function, and its arguments.
func TestSl2Arguments(t *testing.T) {
	m := made(t, "func f 0 0; push none; ret; func g 2 3; load 0; load 1; load 2; tuple 3; ret; func h 1 1; load 0; exit")
	for fn, x := range map[int]struct {
		args []api.Term
		left api.Term
	}{0: {nil, atom("none")}, 1: {terms(in(1), list(in(2))), tuple(in(1), list(in(2)), null())}, 2: {terms(null()), null()}} {
		got, e := slice.Solo(m, fn, x.args, nil, 1)
		n, f := slice.Reds(m, fn, x.args, nil, 1)
		if e != api.OK || !sameMeaning(got, exits(x.left)) || f != api.OK || n != []int{2, 6, 2}[fn] {
			t.Errorf("function %d: %s, %d; %d, %d", fn, toldMeaning(got), e, n, f)
		}
	}
}

// So many slices, and no more; none behind the one that ends it.
func TestSl2Slices(t *testing.T) {
	goes := prog(t, "push 1; out; yield; jump 0")
	for _, n := range []int{0, 1, 2, 10, 1000} {
		wantSolo(t, fmt.Sprint("slices ", n), goes, nil, row(3), n, api.Meaning{End: api.EndYield, Left: 3, Outs: slices.Repeat(row(2)[1:], n)}, max(5*n-1, 0))
	}
	wantSolo(t, "the most slices", prog(t, "yield; jump 0"), nil, nil, api.MaxFuel, api.Meaning{End: api.EndYield}, 1+2*(api.MaxFuel-1))
	wantSolo(t, "whole slices", prog(t, "jump 0"), nil, nil, 100, api.Meaning{End: api.EndYield}, 5700)

	third := prog(t, "yield; yield; push 9; ret")
	wantSolo(t, "two of three slices", third, nil, nil, 2, api.Meaning{End: api.EndYield}, 2)
	for _, n := range []int{3, 4, api.MaxFuel} {
		wantSolo(t, fmt.Sprint("slices ", n), third, nil, nil, n, exits(in(9)), 4)
	}
	waits := prog(t, "yield; recv 0 -1 ? b -> 2; push 1; exit")
	for _, n := range []int{2, 3, api.MaxFuel} {
		wantSolo(t, fmt.Sprint("slices ", n), waits, nil, row(4), n, api.Meaning{End: api.EndWait, Left: 4}, 3)
	}
	fails := prog(t, "yield; push 1; neg; not; ret")
	wantSolo(t, "ahead of a fault", fails, nil, nil, 1, api.Meaning{End: api.EndYield}, 1)
	for _, n := range []int{2, 3, api.MaxFuel} {
		wantSolo(t, fmt.Sprint("slices ", n), fails, nil, nil, n, api.Meaning{End: api.EndFault, Term: atom("badkind")}, 4)
	}
}

// Slices of Solo have the budget Budget: 56 are spent and one instruction more is done, at 57 none.
func TestSl2Budget(t *testing.T) {
	jumps := func(n int) string {
		s := ""
		for k := range n {
			s += fmt.Sprintf("jump %d; ", k+1)
		}
		return s + "push 1; out; jump 0"
	}
	for n := 50; n < 60; n++ {
		x := api.Meaning{End: api.EndYield}
		if n <= 55 {
			x.Outs = terms(in(1))
		}
		reds := api.Budget - api.MaxCost + 1
		if n == 55 { // push is the 56th one, and out costs 2
			reds++
		}
		wantSolo(t, fmt.Sprint("jumps ", n), prog(t, jumps(n)), nil, nil, 1, x, reds)
	}
}

// At most MaxOuts lines and MaxOuts posts are told: the first ones.
func TestSl2AtMostMaxOuts(t *testing.T) {
	for _, n := range []int{0, 1, api.MaxOuts - 1, api.MaxOuts, api.MaxOuts + 1, api.MaxOuts + 100} {
		lines := prog(t, fmt.Sprintf("push 0; store 0; load 0; push %d; less; if 8; load 0; ret; load 0; out; load 0; push 1; add; store 0; jump 2", n))
		wantSolo(t, fmt.Sprint("lines ", n), lines, nil, nil, api.MaxFuel, api.Meaning{End: api.EndExit, Term: in(n), Outs: row(min(n, api.MaxOuts))}, 2+4+2+n*12)
		posts := prog(t, fmt.Sprintf("push 0; store 0; load 0; push %d; less; if 8; load 0; ret; push <9.1>; load 0; send; pop; push x; load 0; send; push 1; add; store 0; jump 2", n))
		x := api.Meaning{End: api.EndExit, Term: in(n)}
		for _, k := range row(min(n, api.MaxOuts)) {
			x.Posts = append(x.Posts, post(9, 1, k))
		}
		wantSolo(t, fmt.Sprint("posts ", n), posts, nil, nil, api.MaxFuel, x, 2+4+2+n*21)
	}
}
