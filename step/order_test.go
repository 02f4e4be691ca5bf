package step_test

import (
	"testing"

	"carousel/api"
	"carousel/step"
)

// noOps are numbers of no operations.
func noOps() []int { return []int{least, -1, 0, 47, 48, 256 + api.OpPush, 1<<32 + api.OpPush, most} }

func TestP102NoStack(t *testing.T) {
	for _, s := range strangers(t) {
		for _, m := range []api.Module{{}, bed(push(in(1))), bed(op(99)), mod(fun("f", 0, 0))} {
			if a, c, e := step.Do(m, s); !sameAsk(a, api.Ask{}) || c != 0 || e != api.ErrArg {
				t.Errorf("Do of no stack: %s, %d, %d", toldAsk(a), c, e)
			}
		}
	}
}

func TestP102NoFrame(t *testing.T) {
	for _, m := range []api.Module{{}, bed(push(in(1))), bed(op(99)), mod(fun("f", 0, 0))} {
		for _, n := range []int{0, 1, 255, 256} {
			wantNotDo(t, "no frame", m, view(row(n)), api.ErrEmpty)
		}
	}
}

// Of a module that has no function of the last frame's number, or no such instruction.
func TestP102NoInstruction(t *testing.T) {
	m := bed(op(api.OpPop))
	for _, fn := range []int{4, 5, 62, 63} {
		for _, at := range []int{0, 2, 1023} {
			wantNotDo(t, "no function", m, view(row(3), call(fn, at, 1)), api.ErrNone)
			wantNotDo(t, "no function", api.Module{}, view(row(3), call(fn, at, 1)), api.ErrNone)
			wantNotDo(t, "no function", m, view(row(3), call(3, here, 0), call(fn, at, 1)), api.ErrNone)
			wantNotDo(t, "no function", m, view(row(256), call(fn, at, 256)), api.ErrNone)
		}
	}
	for _, at := range []int{6, 7, 100, 1023} {
		wantNotDo(t, "no instruction", m, view(row(3), call(3, at, 1)), api.ErrNone)
		wantNotDo(t, "no instruction", m, view(row(3), call(3, here, 0), call(3, at, 1)), api.ErrNone)
		wantNotDo(t, "no instruction", m, view(row(256), call(3, at, 0)), api.ErrNone)
	}
	wantNotDo(t, "no instruction", lastPlace(op(api.OpPop)), view(row(3), call(3, 3, 1)), api.ErrNone)
	wantNotDo(t, "no instruction", mod(fun("f", 0, 0)), view(row(3), call(0, 0, 1)), api.ErrNone)
	wantNotDo(t, "no function", mod(), view(row(3), call(0, 0, 1)), api.ErrNone)

	s := load(t, view(row(3), call(9, 9, 0), call(3, here, 1))) // the frames below the last one are nobody's business
	wantDo(t, "pop", m, s, none(), 1)
}

// What layer 6's Effect refuses comes ahead of too few terms, and of too many.
func TestP102NoSuchInstruction(t *testing.T) {
	var l []api.Instr
	for _, n := range noOps() {
		l = append(l, op(n), api.Instr{Op: n, A: 1, B: 1, Term: in(1)})
	}
	for _, n := range []int{api.OpDup, api.OpTuple, api.OpList} {
		for _, a := range []int{-1, 257, least, most} {
			l = append(l, opA(n, a))
		}
	}
	for _, n := range []int{api.OpCall, api.OpSpawn} {
		for _, a := range []int{-1, 4, 63, 64, least, most} {
			l = append(l, opA(n, a))
		}
	}
	for _, i := range l {
		for _, m := range []api.Module{bed(i), lastPlace(i)} {
			wantNotDone(t, m, nil, api.ErrCode)
			wantNotDone(t, m, row(3), api.ErrCode)
			for _, base := range []int{0, 1, 256} {
				wantNotDo(t, "no such instruction", m, view(row(256), call(3, here, base)), api.ErrCode)
			}
		}
	}
}

// Too few terms come ahead of too many: of those that take more than there are, and leave more than they take.
func TestP102TooFewAheadOfTooMany(t *testing.T) {
	for _, m := range []api.Module{bed(opA(api.OpDup, 2)), lastPlace(opA(api.OpDup, 2))} {
		wantNotDo(t, "dup", m, view(row(256), call(3, here, 254)), api.ErrEmpty)
		wantNotDo(t, "dup", m, view(row(256), call(3, here, 253)), api.ErrHigh)
		wantNotDo(t, "dup", m, view(row(256), call(3, here, 256)), api.ErrEmpty)
	}
}

// Too many terms come ahead of what the instruction refuses, and that ahead of where it goes on.
func TestP102TheInstructionBehindTheStack(t *testing.T) {
	type refused struct {
		i     api.Instr
		above []api.Term
		more  bool
		e     api.Errno
	}
	l := []refused{
		{opA(api.OpLoad, 3), nil, true, api.ErrNone}, {opA(api.OpLoad, -1), nil, true, api.ErrNone}, {opA(api.OpLoad, least), nil, true, api.ErrNone}, {opA(api.OpLoad, most), nil, true, api.ErrNone},
		{opA(api.OpStore, 3), row(1), false, api.ErrNone}, {opA(api.OpStore, -1), row(1), false, api.ErrNone}, {opA(api.OpStore, least), row(1), false, api.ErrNone}, {opA(api.OpStore, most), row(1), false, api.ErrNone},
		{op(api.OpAdd), terms(atom("a"), in(1)), false, api.ErrKind}, {op(api.OpAdd), terms(in(api.MaxInt), in(1)), false, api.ErrRange}, {op(api.OpMul), terms(num(1<<20, 0), num(1<<20, 1)), false, api.ErrRange},
		{op(api.OpDiv), terms(in(1), in(0)), false, api.ErrZero}, {op(api.OpRem), terms(in(1), in(0)), false, api.ErrZero}, {op(api.OpDiv), terms(atom("a"), in(0)), false, api.ErrKind},
		{op(api.OpElem), terms(tuple(), in(0)), false, api.ErrRange}, {op(api.OpElem), terms(in(0), tuple()), false, api.ErrKind}, {op(api.OpCons), terms(list(), in(1)), false, api.ErrKind},
		{op(api.OpCons), terms(in(1), list(nulls(1023)...)), false, api.ErrParts}, {op(api.OpCons), terms(deepOf(63, in(1)), list()), false, api.ErrParts},
		{op(api.OpNeg), terms(atom("a")), false, api.ErrKind}, {op(api.OpNot), terms(in(1)), false, api.ErrKind}, {op(api.OpSize), terms(in(1)), false, api.ErrKind}, {op(api.OpHead), terms(list()), false, api.ErrRange}, {op(api.OpTail), terms(list()), false, api.ErrRange}, {op(api.OpTail), terms(tuple()), false, api.ErrKind},
		{opA(api.OpTuple, 2), terms(list(nulls(511)...), list(nulls(511)...)), false, api.ErrParts}, {opA(api.OpList, 1), terms(list(nulls(1023)...)), false, api.ErrParts}, {opA(api.OpTuple, 1), terms(deepOf(63, in(1))), false, api.ErrParts},
		{opA(api.OpIf, -1), terms(in(1)), false, api.ErrKind}, {match(-1, arm(local(32), -1)), row(1), false, api.ErrPattern}, {op(api.OpSend), row(2), false, api.ErrKind}, {op(api.OpTimer), terms(in(-1), in(1)), false, api.ErrRange}, {op(api.OpLink), row(1), false, api.ErrKind},
	}
	for _, w := range wrongs() {
		l = append(l, refused{push(w.t), nil, true, w.e})
	}
	for _, x := range l {
		for _, m := range []api.Module{bed(x.i), lastPlace(x.i)} {
			wantNotDone(t, m, x.above, x.e)
			wantNotDone(t, m, append(row(5), x.above...), x.e)
			for n := 250; n <= 256; n++ {
				f := x.e
				if n == 256 && x.more {
					f = api.ErrHigh
				}
				for _, v := range high(n, x.above) {
					wantNotDo(t, show(x.i, x.above), m, v, f)
				}
			}
		}
	}
	for _, n := range []int{api.OpSelf, api.OpNow} { // where it goes on comes last of all
		wantNotDo(t, "at the most terms", lastPlace(op(n)), view(row(256), call(3, here, 0)), api.ErrHigh)
		wantNotDo(t, "at one less", lastPlace(op(n)), view(row(255), call(3, here, 0)), api.ErrNone)
	}
	wantNotDo(t, "call at the most terms", bed(calls(0)), view(row(256), append(manyFrames(63), call(3, here, 0))...), api.ErrHigh)
	wantNotDo(t, "call at the most frames", bed(calls(0)), view(row(255), append(manyFrames(63), call(3, here, 0))...), api.ErrDeep)
}

func manyFrames(n int) []api.Frame {
	var l []api.Frame
	for range n {
		l = append(l, call(2, 3, 0))
	}
	return l
}

// A frame has the locals that it has, whatever its function has.
func TestP102LocalsAreTheFrames(t *testing.T) {
	for n := range 33 {
		for i := range 34 {
			m := bed(opA(api.OpLoad, i))
			v := view(row(1), call(3, here, 0, row(n)...))
			if i >= n {
				wantNotDo(t, "load", m, v, api.ErrNone)
				wantNotDo(t, "store", bed(opA(api.OpStore, i)), v, api.ErrNone)
				wantNotDo(t, "match", bed(match(0, arm(local(min(i, 31)), 1))), view(row(1), call(3, here, 0, row(min(n, 31))...)), api.ErrNone)
				continue
			}
			s := load(t, v)
			wantDo(t, "load", m, s, none(), 1)
			holds(t, "load", s, view(terms(in(1), in(i+1)), call(3, here+1, 0, row(n)...)))
			wantAsModel(t, bed(opA(api.OpStore, i)), v, api.OK)
			wantAsModel(t, bed(match(0, arm(local(i), 1))), v, api.OK)
		}
	}
}
