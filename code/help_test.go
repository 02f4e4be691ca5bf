package code_test

import (
	"slices"
	"strconv"
	"strings"
	"testing"

	"carousel/api"
	"carousel/code"
)

const (
	least = -1 << 63
	most  = 1<<63 - 1
)

// wild are numbers that are none of anything, but for places, locals, functions and classes at their bounds.
func wild() []int { return []int{least, least + 1, -1 << 32, 1 << 32, 1<<32 + 1, most - 1, most} }

func in(n int) api.Term { return api.Term{Kind: api.KindInt, N: n} }

func atom(s string) api.Term { return api.Term{Kind: api.KindAtom, S: s} }

func yes() api.Term { return api.Term{Kind: api.KindBool, N: 1} }

func list(l ...api.Term) api.Term { return api.Term{Kind: api.KindList, L: l} }

// endlessTerm is a list that holds itself.
func endlessTerm() api.Term {
	l := make([]api.Term, 1)
	l[0] = list(l...)
	return l[0]
}

func deepTerm(within int) api.Term {
	t := in(0)
	for range within {
		t = list(t)
	}
	return t
}

func whatever() api.Pattern { return api.Pattern{Kind: api.PatAny} }

func local(n int) api.Pattern { return api.Pattern{Kind: api.PatVar, N: n} }

func tup(l ...api.Pattern) api.Pattern { return api.Pattern{Kind: api.PatTuple, L: l} }

// endlessPattern is a tuple that holds itself.
func endlessPattern() api.Pattern {
	l := make([]api.Pattern, 1)
	l[0] = tup(l...)
	return l[0]
}

func deepPattern(within int) api.Pattern {
	p := whatever()
	for range within {
		p = tup(p)
	}
	return p
}

func arm(p api.Pattern, to int) api.Arm { return api.Arm{Pattern: p, To: to} }

// arms lead to some places, whatever comes.
func arms(to ...int) []api.Arm {
	var l []api.Arm
	for _, n := range to {
		l = append(l, arm(whatever(), n))
	}
	return l
}

func op(n int) api.Instr { return api.Instr{Op: n} }

func opA(n, a int) api.Instr { return api.Instr{Op: n, A: a} }

func push(t api.Term) api.Instr { return api.Instr{Op: api.OpPush, Term: t} }

func one() api.Instr { return push(in(1)) }

func pop() api.Instr { return op(api.OpPop) }

func ret() api.Instr { return op(api.OpRet) }

func jump(to int) api.Instr { return opA(api.OpJump, to) }

func iff(to int) api.Instr { return opA(api.OpIf, to) }

func match(a int, l ...api.Arm) api.Instr { return api.Instr{Op: api.OpMatch, A: a, Arms: l} }

func recv(a, b int, l ...api.Arm) api.Instr { return api.Instr{Op: api.OpRecv, A: a, B: b, Arms: l} }

func spawn(a, b int) api.Instr { return api.Instr{Op: api.OpSpawn, A: a, B: b} }

// stop leads nowhere and takes nothing: what stands behind it is never come to.
func stop() api.Instr { return recv(0, -1) }

func fun(name string, params, locals int, l ...api.Instr) api.Func {
	return api.Func{Name: name, Params: params, Locals: locals, Code: l}
}

func mod(l ...api.Func) api.Module { return api.Module{Name: "m", Funcs: l} }

// plain is a module of one function, without locals.
func plain(l ...api.Instr) api.Module { return mod(fun("f", 0, 0, l...)) }

func repeat(n int, i api.Instr) []api.Instr { return slices.Repeat([]api.Instr{i}, n) }

// line is so many of one instruction, and some behind them.
func line(n int, i api.Instr, l ...api.Instr) []api.Instr { return append(repeat(n, i), l...) }

// funcs are so many functions with names of their own.
func funcs(n int) []api.Func {
	var l []api.Func
	for k := range n {
		l = append(l, fun("f"+strconv.Itoa(k), 0, 0, stop()))
	}
	return l
}

// show tells a function of a failure, its instructions by names and numbers.
func show(m api.Module) string {
	var s []string
	for _, f := range m.Funcs {
		s = append(s, f.Name+" "+strconv.Itoa(f.Params)+" "+strconv.Itoa(f.Locals)+":")
		for at, i := range f.Code {
			if at == 12 {
				s = append(s, "..")
				break
			}
			name, _ := code.Op(i.Op)
			s = append(s, name+"("+strconv.Itoa(i.Op)+" "+strconv.Itoa(i.A)+" "+strconv.Itoa(i.B)+" "+strconv.Itoa(len(i.Arms))+")")
		}
	}
	return strings.Join(s[:min(len(s), 60)], " ")
}

func wantCheck(t *testing.T, m api.Module, want api.Errno, fn, at int) {
	t.Helper()
	if e, f, n := code.Check(m); e != want || f != fn || n != at {
		t.Errorf("Check of %s: %d, %d, %d, not %d, %d, %d", show(m), e, f, n, want, fn, at)
	}
}

// wantRefused asks everybody who is handed a module: all tell what Check tells, and nothing besides.
func wantRefused(t *testing.T, m api.Module, want api.Errno, fn, at int) {
	t.Helper()
	wantCheck(t, m, want, fn, at)
	for _, n := range []int{0, -1, 1, len(m.Funcs), most, least} {
		if h, e := code.Heights(m, n); len(h) > 0 || e != want {
			t.Errorf("Heights of %s, function %d: %v, %d, not %d", show(m), n, h, e, want)
		}
	}
	for _, name := range []string{"f", "", "none"} {
		if n, e := code.Find(m, name); n != 0 || e != want {
			t.Errorf("Find of %q in %s: %d, %d, not %d", name, show(m), n, e, want)
		}
	}
}

func wantHeights(t *testing.T, m api.Module, fn int, want ...int) {
	t.Helper()
	wantCheck(t, m, api.OK, 0, 0)
	if h, e := code.Heights(m, fn); !slices.Equal(h, want) || e != api.OK {
		t.Errorf("Heights of %s, function %d: %v, %d, not %v", show(m), fn, h, e, want)
	}
}

// wantInstr asks of an instruction whether it may be in a function of three places, of which it is the one in the middle, that is never come to; the module has two functions.
func wantInstr(t *testing.T, i api.Instr, locals int, want api.Errno) {
	t.Helper()
	f, g := fun("f", 0, locals, stop(), i, ret()), fun("g", 0, 0, stop())
	if want == api.OK {
		wantCheck(t, mod(f, g), api.OK, 0, 0)
		wantCheck(t, mod(g, f), api.OK, 0, 0)
		return
	}
	wantRefused(t, mod(f, g), want, 0, 1)
	wantRefused(t, mod(g, f), want, 1, 1)
}
