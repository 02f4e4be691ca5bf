package step_test

import (
	"strconv"
	"testing"

	"carousel/api"
	"carousel/code"
	"carousel/step"
)

// wantBegun asks for a stack of one frame.
func wantBegun(t *testing.T, m api.Module, fn int, args []api.Term, locals ...api.Term) {
	t.Helper()
	s, e := step.Begin(m, fn, args)
	if e != api.OK || s == nil {
		t.Fatalf("Begin of function %d with %v: %v, %d", fn, args, s, e)
	}
	holds(t, "behind Begin", s, view(nil, call(fn, 0, 0, locals...)))
}

// wantNotBegun asks for an error, and for no stack beside it.
func wantNotBegun(t *testing.T, m api.Module, fn int, args []api.Term, f api.Errno) {
	t.Helper()
	if s, e := step.Begin(m, fn, args); s != nil || e != f {
		t.Errorf("Begin of function %d with %v: %v, %d, not %d", fn, args, s, e, f)
	}
}

// rested is a function that may be, whatever its parameters are.
func rested(name string, params, locals int) api.Func { return fun(name, params, locals, recv(0, -1)) }

func TestP101Begin(t *testing.T) {
	m := mod(rested("f", 0, 0), rested("g", 1, 1), rested("h", 2, 5), rested("i", 0, 3))
	wantBegun(t, m, 0, nil)
	wantBegun(t, m, 0, []api.Term{})
	wantBegun(t, m, 1, []api.Term{in(7)}, in(7))
	wantBegun(t, m, 2, []api.Term{in(7), atom("a")}, in(7), atom("a"), null(), null(), null())
	wantBegun(t, m, 3, nil, null(), null(), null())
	for _, x := range kinds() {
		wantBegun(t, m, 1, []api.Term{x}, x)
	}
	wantBegun(t, m, 1, []api.Term{list(nulls(1023)...)}, list(nulls(1023)...))
	wantBegun(t, m, 1, []api.Term{deepOf(63, in(1))}, deepOf(63, in(1)))
}

// All numbers of parameters, with all numbers of locals.
func TestP101BeginWithManyLocals(t *testing.T) {
	for locals := range 33 {
		for params := range locals + 1 {
			m := mod(rested("f", params, locals))
			args := row(params)
			wantBegun(t, m, 0, args, append(row(params), nulls(locals-params)...)...)
			wantNotBegun(t, m, 0, row(params+1), api.ErrArg)
			if params > 0 {
				wantNotBegun(t, m, 0, row(params-1), api.ErrArg)
				wantNotBegun(t, m, 0, nil, api.ErrArg)
			}
		}
	}
}

func TestP101BeginOfTheLastFunction(t *testing.T) {
	var l []api.Func
	for n := range 64 {
		l = append(l, rested("f"+strconv.Itoa(n), n%3, 3))
		m := mod(l...)
		wantBegun(t, m, n, row(n%3), append(row(n%3), nulls(3-n%3)...)...)
		for _, fn := range []int{n + 1, n + 2, -1, -2, 64, least, most} {
			if fn > n || fn < 0 {
				wantNotBegun(t, m, fn, row(n%3), api.ErrNone)
			}
		}
	}
}

// refusedModules are those that layer 6 refuses, each for a reason of its own, by the function that is asked for or by another one.
func refusedModules() []api.Module {
	f := rested("f", 0, 0)
	return []api.Module{
		{}, {Name: "m"}, {Name: "nil", Funcs: []api.Func{f}}, mod(f, f), mod(f, fun("g", 0, 0)), mod(f, fun("g", 1, 0, ret())), mod(f, fun("g", 0, 33, ret())),
		mod(f, fun("g", 0, 0, op(99), ret())), mod(f, fun("g", 0, 0, opA(api.OpLoad, 0), ret())), mod(f, fun("g", 0, 0, push(api.Term{}), ret())), mod(f, fun("g", 0, 0, opA(api.OpJump, 1))), mod(f, fun("g", 0, 0, ret())), mod(f, fun("g", 0, 0, push(in(1)))),
		mod(fun("g", 0, 0, op(api.OpPop), ret()), f), mod(fun("f", 0, 0, push(in(1)))),
	}
}

func TestP101BeginRefused(t *testing.T) {
	seen := map[api.Errno]bool{}
	for _, m := range refusedModules() {
		e, _, _ := code.Check(m)
		if e == api.OK {
			t.Fatal("a module that may be run:", m)
		}
		seen[e] = true
		for _, fn := range []int{0, 1, -1, 2, least, most} { // what Check refuses comes ahead of all else
			wantNotBegun(t, m, fn, nil, e)
			wantNotBegun(t, m, fn, row(1), e)
			wantNotBegun(t, m, fn, []api.Term{{}}, e)
		}
	}
	if len(seen) != 5 {
		t.Error("not all errors of layer 6:", seen)
	}
}

func TestP101BeginWithTermsThatMayNotBe(t *testing.T) {
	m := mod(rested("f", 0, 0), rested("g", 1, 1), rested("h", 3, 3))
	for _, w := range wrongs() {
		wantNotBegun(t, m, 1, []api.Term{w.t}, w.e)
		wantNotBegun(t, m, 2, []api.Term{w.t, in(1), in(2)}, w.e)
		wantNotBegun(t, m, 2, []api.Term{in(1), w.t, in(2)}, w.e)
		wantNotBegun(t, m, 2, []api.Term{in(1), in(2), w.t}, w.e)
		for _, v := range wrongs() { // the first one is told
			wantNotBegun(t, m, 2, []api.Term{w.t, v.t, in(2)}, w.e)
			wantNotBegun(t, m, 2, []api.Term{in(1), w.t, v.t}, w.e)
		}
		for _, fn := range []int{-1, 3, least, most} { // no such function comes ahead
			wantNotBegun(t, m, fn, []api.Term{w.t}, api.ErrNone)
		}
		wantNotBegun(t, m, 0, []api.Term{w.t}, api.ErrArg) // as do too many, and too few
		wantNotBegun(t, m, 2, []api.Term{w.t, w.t}, api.ErrArg)
		wantNotBegun(t, m, 2, []api.Term{w.t, w.t, w.t, w.t}, api.ErrArg)
	}
}
