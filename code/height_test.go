package code_test

import (
	"slices"
	"testing"

	"carousel/api"
	"carousel/code"
)

func TestP63Heights(t *testing.T) {
	wantHeights(t, plain(one(), ret()), 0, 0, 1)
	wantHeights(t, plain(stop()), 0, 0)
	wantHeights(t, plain(op(api.OpYield), op(api.OpSelf), op(api.OpOut), op(api.OpNow), op(api.OpExit)), 0, 0, 0, 1, 0, 1)
	wantHeights(t, plain(one(), one(), op(api.OpSend), op(api.OpExit)), 0, 0, 1, 2, 1)
	// A term is left behind a call's end, whatever else stands there.
	wantHeights(t, plain(one(), one(), one(), ret()), 0, 0, 1, 2, 3)
	// if: behind, and at A.
	wantHeights(t, plain(push(yes()), iff(4), one(), ret(), stop()), 0, 0, 1, 0, 1, 0)
	// match: at A, and at each arm's To; not behind.
	wantHeights(t, plain(one(), match(3, arms(5)...), ret(), stop(), ret(), stop()), 0, 0, 1, -1, 0, -1, 0)
	wantHeights(t, plain(one(), match(2), stop()), 0, 0, 1, 0)
	// recv: at each arm's To, and at A, if its time is ever up.
	wantHeights(t, plain(one(), recv(3, 5, arms(4)...), ret(), ret(), ret()), 0, 0, 1, -1, 1, 1)
	wantHeights(t, plain(one(), recv(0, -1, arms(4, 2)...), ret(), ret(), ret()), 0, 0, 1, 1, -1, 1)
	wantHeights(t, plain(one(), recv(3, 0), ret(), ret()), 0, 0, 1, -1, 1)
	wantHeights(t, plain(one(), recv(0, -1), ret(), ret()), 0, 0, 1, -1, -1)
	// jump, ret and exit lead not behind.
	wantHeights(t, plain(jump(2), ret(), one(), ret(), one()), 0, 0, -1, 0, 1, -1)
	wantHeights(t, plain(one(), op(api.OpExit), one()), 0, 0, 1, -1)
}

func TestP63HeightsOfTheDocumentsTable(t *testing.T) {
	two := func(n int, behind int, l ...api.Instr) {
		t.Helper()
		code := append(append([]api.Instr{one(), one()}, l...), stop())
		m := mod(fun("f", 0, 1, code...), fun("g", 2, 2, stop()), fun("h", 0, 2, stop()))
		wantHeights(t, m, 0, 0, 1, 2, behind)
	}
	for _, r := range rows() {
		switch r.op {
		case api.OpJump, api.OpIf, api.OpMatch, api.OpRet, api.OpRecv, api.OpExit:
			continue
		case api.OpDup:
			two(r.op, 3, opA(r.op, 0))
			two(r.op, 3, opA(r.op, 1))
		case api.OpTuple, api.OpList:
			two(r.op, 3, opA(r.op, 0))
			two(r.op, 2, opA(r.op, 1))
			two(r.op, 1, opA(r.op, 2))
		case api.OpCall, api.OpSpawn:
			two(r.op, 1, opA(r.op, 1))
			two(r.op, 3, opA(r.op, 2))
		case api.OpPush:
			two(r.op, 3, one())
		case api.OpKind:
			two(r.op, 2, opA(r.op, 1))
		default:
			two(r.op, 2-r.takes+r.leaves, op(r.op))
		}
	}
}

// An instruction that takes more terms than there are.
func TestP62TooLow(t *testing.T) {
	for _, i := range samples() {
		takes, _, e := code.Effect(mod(fun("f", 0, 2), fun("g", 2, 2)), i)
		if e != api.OK || takes == 0 || takes > 200 {
			continue
		}
		code := line(takes-1, one(), i, stop(), stop(), stop())
		m := mod(fun("f", 0, 2, code...), fun("g", 2, 2, stop()))
		wantRefused(t, m, api.ErrHeight, 0, takes-1)
		m.Funcs[0].Code = line(takes, one(), i, stop(), stop())
		switch i.Op {
		case api.OpIf, api.OpMatch:
			continue
		}
		wantCheck(t, m, api.OK, 0, 0)
	}
	wantRefused(t, plain(opA(api.OpDup, 0), ret()), api.ErrHeight, 0, 0)
	wantRefused(t, plain(ret()), api.ErrHeight, 0, 0)
	wantRefused(t, plain(op(api.OpExit)), api.ErrHeight, 0, 0)
	wantRefused(t, plain(one(), opA(api.OpTuple, 2), ret()), api.ErrHeight, 0, 1)
	wantHeights(t, plain(opA(api.OpTuple, 0), ret()), 0, 0, 1)
	// A call's parameters are locals: at its place 0 the height is 0.
	wantRefused(t, mod(fun("f", 2, 2, op(api.OpAdd), ret())), api.ErrHeight, 0, 0)
}

func rising(n int) []int {
	l := make([]int, n)
	for k := range l {
		l[k] = k
	}
	return l
}

func TestP62TooHigh(t *testing.T) {
	wantHeights(t, plain(line(256, one(), ret())...), 0, rising(257)...)
	wantRefused(t, plain(line(257, one(), ret())...), api.ErrHeight, 0, 256)
	wantRefused(t, plain(line(1000, one(), ret())...), api.ErrHeight, 0, 256)
	g := fun("g", 0, 1, stop())
	for _, i := range []api.Instr{one(), opA(api.OpDup, 0), opA(api.OpDup, 254), opA(api.OpLoad, 0), op(api.OpSelf), op(api.OpNow), opA(api.OpTuple, 0), opA(api.OpList, 0), opA(api.OpCall, 1), spawn(1, 0)} {
		wantRefused(t, mod(fun("f", 0, 1, line(256, one(), i, ret())...), g), api.ErrHeight, 0, 256)
		wantHeights(t, mod(fun("f", 0, 1, line(255, one(), i, ret())...), g), 0, rising(257)...)
	}
	for _, i := range []api.Instr{opA(api.OpTuple, 1), opA(api.OpKind, 1), op(api.OpNeg), op(api.OpLink), op(api.OpYield), jump(257)} {
		wantHeights(t, mod(fun("f", 0, 1, line(256, one(), i, ret())...), g), 0, append(rising(257), 256)...)
	}
	for _, i := range []api.Instr{op(api.OpAdd), op(api.OpSend), opA(api.OpTuple, 2), pop(), iff(257)} {
		wantHeights(t, mod(fun("f", 0, 1, line(256, one(), i, ret())...), g), 0, append(rising(257), 255)...)
	}
	wantHeights(t, plain(line(255, one(), opA(api.OpTuple, 255), ret())...), 0, append(rising(256), 1)...)
	wantRefused(t, plain(line(254, one(), opA(api.OpList, 255), ret())...), api.ErrHeight, 0, 254)
	// Both too low and too high is one fault.
	wantRefused(t, plain(one(), opA(api.OpDup, 254), ret()), api.ErrHeight, 0, 1)
}

// A place that is led to with two heights, by the one behind and by a jump.
func TestP62TwoHeights(t *testing.T) {
	wantRefused(t, plain(push(yes()), iff(3), one(), ret()), api.ErrHeight, 0, 2)
	wantHeights(t, plain(push(yes()), iff(4), one(), pop(), stop()), 0, 0, 1, 0, 1, 0)
	wantRefused(t, plain(one(), push(yes()), iff(4), pop(), ret()), api.ErrHeight, 0, 3)
	wantRefused(t, plain(push(yes()), iff(4), one(), jump(5), jump(5), ret(), ret()), api.ErrHeight, 0, 4)
	wantRefused(t, plain(push(yes()), iff(4), one(), jump(6), jump(6), ret(), ret()), api.ErrHeight, 0, 4)
	// To the place itself.
	wantRefused(t, plain(one(), iff(1), ret()), api.ErrHeight, 0, 1)
	wantHeights(t, plain(one(), recv(1, 5), ret()), 0, 0, 1, -1)
	wantRefused(t, plain(one(), match(1), ret()), api.ErrHeight, 0, 1)
	wantRefused(t, plain(one(), match(2, arms(2, 2, 1)...), stop()), api.ErrHeight, 0, 1)
	// By arms.
	wantCheck(t, plain(one(), one(), match(3, arms(3, 3, 1)...), ret()), api.OK, 0, 0)
	wantRefused(t, plain(one(), recv(2, 1, arms(2, 0)...), ret()), api.ErrHeight, 0, 1)
	wantRefused(t, plain(one(), recv(0, 1, arms(2)...), ret()), api.ErrHeight, 0, 1)
	wantRefused(t, plain(one(), recv(0, -1, arms(2, 2, 0)...), ret()), api.ErrHeight, 0, 1)
	wantHeights(t, plain(one(), recv(0, -1, arms(2, 2, 1)...), ret()), 0, 0, 1, 1)
}

func TestP62Loops(t *testing.T) {
	wantHeights(t, plain(jump(0)), 0, 0)
	wantHeights(t, plain(op(api.OpYield), jump(0)), 0, 0, 0)
	wantHeights(t, plain(one(), pop(), jump(0)), 0, 0, 1, 0)
	wantHeights(t, plain(one(), match(0, arms(0)...)), 0, 0, 1)
	wantHeights(t, plain(recv(0, 5, arms(0)...)), 0, 0)
	wantHeights(t, plain(push(yes()), iff(0), jump(0)), 0, 0, 1, 0)
	wantRefused(t, plain(one(), jump(0)), api.ErrHeight, 0, 1)
	wantRefused(t, plain(one(), one(), iff(0), ret()), api.ErrHeight, 0, 2)
	wantRefused(t, plain(jump(1), one(), jump(1)), api.ErrHeight, 0, 2)
	wantHeights(t, plain(one(), op(api.OpYield), jump(1)), 0, 0, 1, 1)
}

// Which place is refused hangs on the order in which they are gone through: the least one that waits comes first, those ahead of the last one too.
func TestP62TheLeastPlaceFirst(t *testing.T) {
	wantRefused(t, plain(push(yes()), iff(4), one(), jump(6), jump(6), ret(), ret()), api.ErrHeight, 0, 4)
	wantRefused(t, plain(push(yes()), iff(5), jump(4), one(), jump(3), pop()), api.ErrHeight, 0, 3)
	wantRefused(t, plain(jump(3), pop(), stop(), one(), match(1, arms(5)...), pop()), api.ErrHeight, 0, 1)
	wantRefused(t, plain(jump(3), stop(), pop(), one(), match(1, arms(5)...), pop()), api.ErrHeight, 0, 5)
	wantRefused(t, plain(jump(6), pop(), pop(), pop(), pop(), ret(), one(), match(4, arms(2, 3, 1)...)), api.ErrHeight, 0, 1)
}

// From the last place back to the first, one by one: each is come to from the one behind it.
func TestP63Backwards(t *testing.T) {
	l := make([]api.Instr, api.MaxCode)
	want := make([]int, api.MaxCode)
	for k := range l {
		l[k] = jump(k - 1)
	}
	l[0], l[1] = jump(api.MaxCode-1), stop()
	wantHeights(t, plain(l...), 0, want...)
	l[1] = one()
	wantRefused(t, plain(l...), api.ErrHeight, 0, 1)
}

func TestP63NeverComeTo(t *testing.T) {
	for _, i := range []api.Instr{pop(), one(), ret(), op(api.OpAdd), opA(api.OpDup, 254), opA(api.OpTuple, 255), jump(0), jump(1), jump(2), iff(0), match(0), recv(0, 1), op(api.OpExit)} {
		wantHeights(t, plain(jump(2), i, one(), ret(), i), 0, 0, -1, 0, 1, -1)
	}
	// With a fault of their own they are refused; by heights they are not.
	wantRefused(t, plain(jump(2), op(0), stop()), api.ErrCode, 0, 1)
	wantRefused(t, plain(jump(2), jump(3), stop()), api.ErrJump, 0, 1)
	wantRefused(t, plain(stop(), opA(api.OpLoad, 0)), api.ErrCode, 0, 1)
	wantHeights(t, plain(stop(), one()), 0, 0, -1)
	wantHeights(t, plain(line(1, stop(), repeat(1023, one())...)...), 0, append([]int{0}, slices.Repeat([]int{-1}, 1023)...)...)
}

func TestP63HeightsOfSeveralFunctions(t *testing.T) {
	m := mod(fun("f", 0, 0, stop()), fun("g", 1, 2, opA(api.OpLoad, 0), ret()), fun("h", 0, 0, one(), one(), opA(api.OpCall, 1), op(api.OpAdd), ret()))
	wantHeights(t, m, 0, 0)
	wantHeights(t, m, 1, 0, 1)
	wantHeights(t, m, 2, 0, 1, 2, 2, 1)
	for _, fn := range append(wild(), -1, -2, 3, 4, 64) {
		if h, e := code.Heights(m, fn); len(h) > 0 || e != api.ErrNone {
			t.Errorf("Heights of function %d: %v, %d", fn, h, e)
		}
	}
	full := mod(funcs(64)...)
	wantHeights(t, full, 63, 0)
	if h, e := code.Heights(full, 64); len(h) > 0 || e != api.ErrNone {
		t.Error("Heights of function 64:", h, e)
	}
	// What lies behind the end of the functions is none.
	if h, e := code.Heights(api.Module{Name: "m", Funcs: funcs(3)[:2]}, 2); len(h) > 0 || e != api.ErrNone {
		t.Error("Heights of a function behind the end:", h, e)
	}
}

func TestP63Find(t *testing.T) {
	m := mod(funcs(64)...)
	for fn, f := range m.Funcs {
		if n, e := code.Find(m, f.Name); n != fn || e != api.OK {
			t.Errorf("Find of %q: %d, %d", f.Name, n, e)
		}
	}
	for _, s := range append(noAtoms(), "f", "f64", "f00", "F0", "m", "f1 ", " f1", "f0f1", "main") {
		if n, e := code.Find(m, s); n != 0 || e != api.ErrNone {
			t.Errorf("Find of %q: %d, %d", s, n, e)
		}
	}
	if n, e := code.Find(api.Module{Name: "m", Funcs: funcs(3)[:2]}, "f2"); n != 0 || e != api.ErrNone {
		t.Error("Find of a function behind the end:", n, e)
	}
	// Of a name that two functions bear the module is refused.
	two := mod(fun("a", 0, 0, stop()), fun("f", 0, 0, stop()), fun("f", 0, 0, stop()))
	wantRefused(t, two, api.ErrModule, 2, 0)
	if n, e := code.Find(two, "a"); n != 0 || e != api.ErrModule {
		t.Error("Find in a module that may not be:", n, e)
	}
}
