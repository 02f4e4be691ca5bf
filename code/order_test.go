package code_test

import (
	"testing"

	"carousel/api"
)

// A place is the number of one of the function's own instructions.
func TestP62PlacesOfAFunction(t *testing.T) {
	for _, n := range []int{2, 3, 10, 1024} {
		for _, to := range append(wild(), -2, -1, 0, 1, n-1, n, n+1, 1024) {
			want := api.ErrJump
			if to >= 0 && to < n {
				want = api.OK
			}
			for _, i := range []api.Instr{jump(to), iff(to), match(to), match(0, arms(to)...), match(0, arms(0, to)...), recv(to, 0), recv(to, 1<<20, arms(0)...), recv(0, -1, arms(to)...), recv(0, 3, arms(0, 0, to)...)} {
				// The first place leads nowhere: the heights have no say.
				code := append([]api.Instr{stop(), i}, repeat(n-2, ret())...)
				if want == api.OK {
					wantCheck(t, plain(code...), api.OK, 0, 0)
				} else {
					wantRefused(t, plain(code...), api.ErrJump, 0, 1)
				}
			}
		}
	}
	short, long := fun("f", 0, 0, stop(), jump(3)), fun("g", 0, 0, stop(), jump(3), ret(), ret())
	wantRefused(t, mod(long, short), api.ErrJump, 1, 1)
	wantRefused(t, mod(short, long), api.ErrJump, 0, 1)
}

// fault is a function with a fault.
type fault struct {
	f    api.Func
	e    api.Errno
	at   int
	rank int // which of the document's steps tells it
}

func faults() []fault {
	return []fault{
		{fun("nil", 0, 0, stop()), api.ErrModule, 0, 1},
		{fun("g", 1, 0, stop()), api.ErrModule, 0, 1},
		{fun("g", 0, 33, stop()), api.ErrModule, 0, 1},
		{fun("g", 0, 0), api.ErrModule, 0, 1},
		{fun("g", 0, 0, stop(), op(0)), api.ErrCode, 1, 2},
		{fun("g", 0, 0, stop(), ret(), opA(api.OpPop, 1)), api.ErrCode, 2, 2},
		{fun("g", 0, 0, stop(), jump(2)), api.ErrJump, 1, 2},
		{fun("g", 0, 0, jump(-1)), api.ErrJump, 0, 2},
		{fun("g", 0, 0, one(), one(), iff(0), pop()), api.ErrHeight, 2, 3},
		{fun("g", 0, 0, pop()), api.ErrHeight, 0, 3},
		{fun("g", 0, 0, one(), pop()), api.ErrFall, 1, 3},
	}
}

// Of two functions with faults: the earlier step's is told; of one step's the first function's.
func TestP62WhichFunctionIsToldFirst(t *testing.T) {
	for _, a := range faults() {
		wantRefused(t, mod(a.f), a.e, 0, a.at)
		for _, b := range faults() {
			g, h := a.f, b.f
			if h.Name == "g" {
				h.Name = "h"
			}
			first, fn := a, 1
			if b.rank < a.rank {
				first, fn = b, 3
			}
			wantRefused(t, mod(fun("f", 0, 0, stop()), g, fun("between", 0, 0, one(), ret()), h), first.e, fn, first.at)
			wantRefused(t, api.Module{Name: "M", Funcs: []api.Func{g, h}}, api.ErrModule, 0, 0)
			l := append(funcs(63), g, h)
			wantRefused(t, mod(l...), api.ErrModule, 0, 0)
		}
	}
}

// Of two instructions that may not be the first one is told; of one instruction ErrCode ahead of ErrJump.
func TestP62WhichInstructionIsToldFirst(t *testing.T) {
	wrong, out := opA(api.OpLoad, 0), jump(9)
	both := match(9, arm(local(0), 0))
	for _, x := range []struct {
		code []api.Instr
		e    api.Errno
		at   int
	}{
		{[]api.Instr{wrong, out, ret()}, api.ErrCode, 0},
		{[]api.Instr{out, wrong, ret()}, api.ErrJump, 0},
		{[]api.Instr{ret(), out, wrong}, api.ErrJump, 1},
		{[]api.Instr{ret(), wrong, out}, api.ErrCode, 1},
		{[]api.Instr{pop(), ret(), out}, api.ErrJump, 2},
		{[]api.Instr{pop(), ret(), wrong}, api.ErrCode, 2},
		{[]api.Instr{one(), wrong}, api.ErrCode, 1},
		{[]api.Instr{stop(), both}, api.ErrCode, 1},
		{[]api.Instr{both, out}, api.ErrCode, 0},
		{[]api.Instr{out, both}, api.ErrJump, 0},
		{[]api.Instr{recv(9, -2)}, api.ErrCode, 0},
		{[]api.Instr{recv(9, -1)}, api.ErrCode, 0},
		{[]api.Instr{recv(9, 0)}, api.ErrJump, 0},
		{[]api.Instr{recv(9, 1<<20+1)}, api.ErrCode, 0},
		{[]api.Instr{recv(9, 0, arm(local(0), 0))}, api.ErrCode, 0},
		{[]api.Instr{recv(0, 0, arm(whatever(), 9), arm(local(0), 0))}, api.ErrCode, 0},
		{[]api.Instr{match(0, arms(make([]int, 33)...)...), jump(-1)}, api.ErrCode, 0},
		{[]api.Instr{match(-1, arms(make([]int, 33)...)...)}, api.ErrCode, 0},
		{[]api.Instr{{Op: api.OpJump, A: 9, B: 1}}, api.ErrCode, 0},
		{[]api.Instr{{Op: api.OpIf, A: -1, Term: in(1)}}, api.ErrCode, 0},
		{append(repeat(1023, stop()), jump(1024)), api.ErrJump, 1023},
		{append(repeat(1023, stop()), wrong), api.ErrCode, 1023},
	} {
		wantRefused(t, plain(x.code...), x.e, 0, x.at)
		wantRefused(t, mod(fun("a", 0, 0, pop()), fun("b", 0, 0, x.code...), fun("c", 0, 0, wrong)), x.e, 1, x.at)
	}
}

// What leads behind the last instruction, and to another height.
func TestP62FallsAndHeights(t *testing.T) {
	for _, x := range []struct {
		code []api.Instr
		e    api.Errno
		at   int
	}{
		// Of one instruction: its own height, then the place behind it, then the others.
		{[]api.Instr{pop()}, api.ErrHeight, 0},
		{[]api.Instr{iff(0)}, api.ErrHeight, 0},
		{[]api.Instr{one(), iff(0)}, api.ErrFall, 1},
		{[]api.Instr{one(), one(), iff(0)}, api.ErrFall, 2},
		{[]api.Instr{one(), one(), iff(0), ret()}, api.ErrHeight, 2},
		{line(256, one(), one()), api.ErrHeight, 256},
		{line(256, one()), api.ErrFall, 255},
		// Of two: as they are gone through, the least place that waits first.
		{[]api.Instr{one(), iff(4), one(), jump(0), one()}, api.ErrHeight, 3},
		{[]api.Instr{one(), iff(3), stop(), one()}, api.ErrFall, 3},
		{[]api.Instr{one(), iff(4), one(), ret(), pop()}, api.ErrHeight, 4},
		{[]api.Instr{jump(2), pop(), one(), iff(1)}, api.ErrFall, 3},
		{[]api.Instr{jump(4), pop(), one(), ret(), one(), match(1, arms(6)...), one()}, api.ErrHeight, 1},
		{[]api.Instr{jump(3), one(), stop(), one(), match(1, arms(5)...), one()}, api.ErrFall, 5},
		{[]api.Instr{jump(3), one(), op(api.OpYield), one(), match(1, arms(5)...), one()}, api.ErrHeight, 2},
	} {
		wantRefused(t, plain(x.code...), x.e, 0, x.at)
	}
}

// Each operation as the last instruction of a function: all but five lead behind it, ahead of all else.
func TestP62FallOfEachOperation(t *testing.T) {
	for _, i := range samples() {
		m := mod(fun("f", 0, 2, line(255, one(), i)...), fun("g", 2, 2, stop()))
		switch i.Op {
		case api.OpJump, api.OpMatch, api.OpRecv, api.OpRet, api.OpExit:
			if len(modelPlaces(i)) == 0 {
				wantCheck(t, m, api.OK, 0, 0)
			} else {
				// The places to which these lead have heights of their own.
				wantRefused(t, m, api.ErrHeight, 0, 255)
			}
		default:
			wantRefused(t, m, api.ErrFall, 0, 255)
		}
	}
}
