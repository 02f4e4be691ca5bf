package step_test

import (
	"slices"
	"strconv"
	"testing"

	"carousel/api"
	"carousel/step"
)

func calls(fn int) api.Instr { return opA(api.OpCall, fn) }

// wantCalled does a call in all beds: the caller stands behind it, the new frame at its beginning.
func wantCalled(t *testing.T, m api.Module, fn int, more, args []api.Term, locals ...api.Term) {
	t.Helper()
	above := append(slices.Clone(more), args...)
	for _, v := range beds(above, threeLocals()) {
		s := load(t, v)
		what := show(calls(fn), above)
		wantDo(t, what, m, s, none(), 2)
		u := view(v.Terms[:len(v.Terms)-len(args)], slices.Clone(v.Frames)...)
		u.Frames[len(u.Frames)-1].At = here + 1
		u.Frames = append(u.Frames, call(fn, 0, len(u.Terms), locals...))
		holds(t, what, s, u)
	}
}

func TestP102Call(t *testing.T) {
	a, b, c := atom("a"), in(2), list(in(3))
	wantCalled(t, bed(calls(0)), 0, nil, nil)
	wantCalled(t, bed(calls(0)), 0, terms(a, b), nil)
	wantCalled(t, bed(calls(1)), 1, nil, terms(a), a, null())
	wantCalled(t, bed(calls(1)), 1, terms(a, b), terms(c), c, null())
	wantCalled(t, bed(calls(2)), 2, nil, terms(a, b), a, b, null())
	wantCalled(t, bed(calls(2)), 2, terms(c), terms(b, a), b, a, null())
	wantCalled(t, bed(calls(3)), 3, terms(c), nil, nulls(3)...) // itself
	for params := range 33 {
		m := bed(calls(1))
		m.Funcs[1].Params, m.Funcs[1].Locals = params, 32
		wantCalled(t, m, 1, terms(a), row(params), append(row(params), nulls(32-params)...)...)
	}
}

// The last function that a frame may have, and one more.
func TestP102CallOfTheLastFunction(t *testing.T) {
	m := bed(calls(63))
	for n := range 61 {
		m.Funcs = append(m.Funcs, rested("f"+strconv.Itoa(n), 1, 1))
	}
	wantCalled(t, m, 63, nil, terms(in(5)), in(5))
	m.Funcs[3].Code[here] = calls(64)
	wantNotDone(t, m, terms(in(5)), api.ErrArg)
	m.Funcs[3].Code[here] = calls(65)
	wantNotDone(t, m, terms(in(5)), api.ErrCode)
	m.Funcs[3].Code[here] = calls(-1)
	wantNotDone(t, m, terms(in(5)), api.ErrCode)
}

// A call of a function that may not be is refused, and the caller stays where it is.
func TestP102CallOfWhatMayNotBe(t *testing.T) {
	for _, f := range []struct {
		params, locals int
		e              api.Errno
	}{
		{0, 32, api.OK}, {0, 33, api.ErrArg}, {0, most, api.ErrArg}, {0, -1, api.ErrArg}, {0, least, api.ErrArg}, {1, 0, api.ErrArg}, {3, 2, api.ErrArg}, {3, 3, api.OK}, {4, 4, api.ErrEmpty}, {4, 0, api.ErrEmpty}, {4, 33, api.ErrEmpty},
		{most, most, api.ErrEmpty}, {-1, 0, api.ErrCode}, {-1, -1, api.ErrCode}, {least, 0, api.ErrCode}, {-1, 33, api.ErrCode},
	} {
		for _, m := range []api.Module{bed(calls(1)), lastPlace(calls(1))} {
			m.Funcs[1].Params, m.Funcs[1].Locals = f.params, f.locals
			switch {
			case f.e != api.OK:
				wantNotDone(t, m, row(3), f.e)
			case len(m.Funcs[3].Code) == here+1:
				wantNotDone(t, m, row(3), api.ErrNone)
			default:
				wantCalled(t, m, 1, row(3-f.params), row(3)[3-f.params:], append(row(3)[3-f.params:], nulls(f.locals-f.params)...)...)
			}
		}
	}
}

func TestP102CallAtTheLastFrames(t *testing.T) {
	outer := func(n int) []api.Frame { return slices.Repeat([]api.Frame{call(2, 3, 1, in(7))}, n-1) }
	stack := func(n int, l ...api.Term) api.View {
		return view(append(row(1), l...), append(outer(n), call(3, here, 1, threeLocals()...))...)
	}
	m, last := bed(calls(1)), lastPlace(calls(1))
	s := load(t, stack(63, in(5)))
	wantDo(t, "call at 63 frames", m, s, none(), 2)
	holds(t, "call at 63 frames", s, view(row(1), append(outer(63), call(3, here+1, 1, threeLocals()...), call(1, 0, 1, in(5), null()))...))

	wantNotDo(t, "call at 63 frames, nothing behind", last, stack(63, in(5)), api.ErrNone)
	wantNotDo(t, "call at 64 frames", m, stack(64, in(5)), api.ErrDeep)
	wantNotDo(t, "call at 64 frames, nothing behind", last, stack(64, in(5)), api.ErrDeep)
	wantNotDo(t, "call at 64 frames without its parameter", m, stack(64), api.ErrEmpty)
	m.Funcs[1].Locals = 33
	wantNotDo(t, "call at 64 frames of what may not be", m, stack(64, in(5)), api.ErrArg)
	for n := 1; n <= 64; n++ { // all others are done at all depths
		s := load(t, stack(n, in(5)))
		wantDo(t, "pop", bed(op(api.OpPop)), s, none(), 1)
		holds(t, "pop", s, view(row(1), append(outer(n), call(3, here+1, 1, threeLocals()...))...))
	}
}

// A call ends: of what stands above its base the top is left, and the caller goes on where it stands.
func TestP102Ret(t *testing.T) {
	for _, m := range []api.Module{bed(ret()), lastPlace(ret())} {
		for _, x := range kinds() {
			for _, more := range [][]api.Term{nil, terms(atom("more")), row(9)} {
				for _, caller := range []api.Frame{call(1, 5, 1, in(8), null()), call(3, 1023, 2), call(63, 0, 0, nulls(32)...)} {
					last := call(3, here, 3, threeLocals()...)
					above := append(row(3), append(slices.Clone(more), x)...)
					s := load(t, view(above, caller, last))
					wantDo(t, "ret", m, s, none(), 1)
					holds(t, "ret", s, view(append(row(3), x), caller))

					first := call(0, 0, 0)
					s = load(t, view(above, first, caller, last))
					wantDo(t, "ret", m, s, none(), 1)
					holds(t, "ret", s, view(append(row(3), x), first, caller))
				}
			}
		}
	}
}

func TestP102RetOfTheOnlyFrame(t *testing.T) {
	for _, m := range []api.Module{bed(ret()), lastPlace(ret())} {
		for _, x := range kinds() {
			for below := range 3 {
				for _, more := range [][]api.Term{nil, terms(atom("more")), row(9)} {
					above := append(row(below), append(slices.Clone(more), x)...)
					s := load(t, view(above, call(3, here, below, threeLocals()...)))
					wantDo(t, "ret", m, s, api.Ask{Kind: api.AskExit, Term: atom("normal"), Args: terms(x)}, 1)
					holds(t, "ret", s, view(append(row(below), x)))
					wantNotDo(t, "behind the end", m, s.View(), api.ErrEmpty)
				}
			}
		}
	}
}

// A program that calls itself, and goes on behind each of its calls.
func TestP102CallsAndRets(t *testing.T) {
	m := mod(fun("sum", 1, 1,
		opA(api.OpLoad, 0), push(in(0)), op(api.OpEq), opA(api.OpIf, 10),
		opA(api.OpLoad, 0), push(in(1)), op(api.OpSub), calls(0), opA(api.OpLoad, 0), opA(api.OpJump, 11),
		opA(api.OpJump, 13),
		op(api.OpAdd), ret(),
		push(in(0)), ret()))
	for n := range 64 {
		s, e := step.Begin(m, 0, terms(in(n)))
		want(t, "Begin", e, api.OK)
		steps := 0
		for s.Depth() > 0 {
			a, _, e := step.Do(m, s)
			if e != api.OK {
				t.Fatalf("the sum to %d: %d", n, e)
			}
			if s.Depth() == 0 && (a.Kind != api.AskExit || !sameTerms(a.Args, terms(in(n*(n+1)/2)))) {
				t.Errorf("the sum to %d: %s", n, toldAsk(a))
			}
			steps++
		}
		if steps != 12*n+7 {
			t.Errorf("the sum to %d: %d steps", n, steps)
		}
		holds(t, "the sum", s, view(terms(in(n*(n+1)/2))))
	}
	s, _ := step.Begin(m, 0, terms(in(64)))
	for {
		_, _, e := step.Do(m, s)
		if e == api.OK {
			continue
		}
		want(t, "the sum to 64", e, api.ErrDeep)
		break
	}
	if s.Depth() != 64 {
		t.Error("the sum to 64 ends at the depth", s.Depth())
	}
	if _, at, _ := s.Top(); at != 7 {
		t.Error("the sum to 64 ends at", at)
	}
}
