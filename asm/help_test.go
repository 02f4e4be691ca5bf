package asm_test

import (
	"math"
	"reflect"
	"slices"
	"strconv"
	"strings"
	"testing"

	"carousel/api"
	"carousel/asm"
	"carousel/code"
)

const (
	least = -1 << 63
	most  = 1<<63 - 1
	ticks = 1 << 20
)

// wild are numbers that may stand nowhere.
func wild() []int {
	return []int{least, least + 1, -1 << 32, 1 << 32, 1<<32 + 1, 1<<32 - 1, 1 << 62, most - 1, most}
}

func in(n int) api.Term { return api.Term{Kind: api.KindInt, N: n} }

func atom(s string) api.Term { return api.Term{Kind: api.KindAtom, S: s} }

func tuple(l ...api.Term) api.Term { return api.Term{Kind: api.KindTuple, L: l} }

func list(l ...api.Term) api.Term { return api.Term{Kind: api.KindList, L: l} }

func endlessTerm() api.Term {
	l := make([]api.Term, 1)
	l[0] = list(l...)
	return l[0]
}

func deepTerm(within int) api.Term {
	t := in(0)
	for range within {
		t = list(t)
	}
	return t
}

func whatever() api.Pattern { return api.Pattern{Kind: api.PatAny} }

func local(n int) api.Pattern { return api.Pattern{Kind: api.PatVar, N: n} }

func just(t api.Term) api.Pattern { return api.Pattern{Kind: api.PatTerm, Term: t} }

func tup(l ...api.Pattern) api.Pattern { return api.Pattern{Kind: api.PatTuple, L: l} }

func endlessPattern() api.Pattern {
	l := make([]api.Pattern, 1)
	l[0] = tup(l...)
	return l[0]
}

func deepPattern(within int) api.Pattern {
	p := whatever()
	for range within {
		p = tup(p)
	}
	return p
}

func arm(p api.Pattern, to int) api.Arm { return api.Arm{Pattern: p, To: to} }

// arms lead to some places, whatever comes.
func arms(to ...int) []api.Arm {
	var l []api.Arm
	for _, n := range to {
		l = append(l, arm(whatever(), n))
	}
	return l
}

func op(n int) api.Instr { return api.Instr{Op: n} }

func opA(n, a int) api.Instr { return api.Instr{Op: n, A: a} }

func push(t api.Term) api.Instr { return api.Instr{Op: api.OpPush, Term: t} }

func ret() api.Instr { return op(api.OpRet) }

func match(a int, l ...api.Arm) api.Instr { return api.Instr{Op: api.OpMatch, A: a, Arms: l} }

func recv(a, b int, l ...api.Arm) api.Instr { return api.Instr{Op: api.OpRecv, A: a, B: b, Arms: l} }

func spawn(a, b int) api.Instr { return api.Instr{Op: api.OpSpawn, A: a, B: b} }

// stop leads nowhere and takes nothing.
func stop() api.Instr { return recv(0, -1) }

func fun(name string, params, locals int, l ...api.Instr) api.Func {
	return api.Func{Name: name, Params: params, Locals: locals, Code: l}
}

func mod(l ...api.Func) api.Module { return api.Module{Name: "m", Funcs: l} }

// sameTerm tells whether two terms are the same in all fields; nil is the empty list.
func sameTerm(a, b api.Term) bool {
	bit := math.Float64bits
	return a.Kind == b.Kind && a.N == b.N && a.S == b.S && a.P == b.P && bit(real(a.C)) == bit(real(b.C)) && bit(imag(a.C)) == bit(imag(b.C)) && slices.EqualFunc(a.L, b.L, sameTerm)
}

func samePattern(a, b api.Pattern) bool {
	return a.Kind == b.Kind && a.N == b.N && sameTerm(a.Term, b.Term) && slices.EqualFunc(a.L, b.L, samePattern) && slices.EqualFunc(a.Rest, b.Rest, samePattern)
}

func sameArm(a, b api.Arm) bool { return a.To == b.To && samePattern(a.Pattern, b.Pattern) }

func same(a, b api.Instr) bool {
	return a.Op == b.Op && a.A == b.A && a.B == b.B && sameTerm(a.Term, b.Term) && slices.EqualFunc(a.Arms, b.Arms, sameArm)
}

func sameFunc(a, b api.Func) bool {
	return a.Name == b.Name && a.Params == b.Params && a.Locals == b.Locals && slices.EqualFunc(a.Code, b.Code, same)
}

func sameModule(a, b api.Module) bool {
	return a.Name == b.Name && slices.EqualFunc(a.Funcs, b.Funcs, sameFunc)
}

// short is a text as it is told of a failure.
func short(s string) string {
	if len(s) > 160 {
		return s[:100] + " .. " + s[len(s)-56:]
	}
	return s
}

// show tells an instruction of a failure, whatever it is.
func show(i api.Instr) string {
	name, _ := code.Op(i.Op)
	return name + "(" + strconv.Itoa(i.Op) + " " + strconv.Itoa(i.A) + " " + strconv.Itoa(i.B) + " kind " + strconv.Itoa(i.Term.Kind) + ", " + strconv.Itoa(len(i.Arms)) + " arms)"
}

// wantInstr asks for an instruction's text, and for it back.
func wantInstr(t *testing.T, i api.Instr, want string) {
	t.Helper()
	if s, e := asm.Instr(i); s != want || e != api.OK {
		t.Errorf("Instr(%s): %q, %d, not %q", show(i), short(s), e, short(want))
	}
	wantRead(t, want, i)
}

// wantNoInstr asks of an instruction that may not be by itself.
func wantNoInstr(t *testing.T, i api.Instr) {
	t.Helper()
	if s, e := asm.Instr(i); s != "" || e != api.ErrCode {
		t.Errorf("Instr(%s): %q, %d, not %d", show(i), short(s), e, api.ErrCode)
	}
}

// wantRead asks for the instruction of a text.
func wantRead(t *testing.T, s string, want api.Instr) {
	t.Helper()
	if i, e := asm.InstrOf(s); !same(i, want) || e != api.OK {
		t.Errorf("InstrOf(%q): %s, %d, not %s", short(s), show(i), e, show(want))
	}
}

// wantUnread asks of a text of no instruction, by itself and as a line of a module.
func wantUnread(t *testing.T, s string) {
	t.Helper()
	if i, e := asm.InstrOf(s); !reflect.DeepEqual(i, api.Instr{}) || e != api.ErrAsm {
		t.Errorf("InstrOf(%q): %s, %d, not %d", short(s), show(i), e, api.ErrAsm)
	}
	if len(s) > api.MaxText-100 || strings.ContainsAny(s, ";\n") || strings.Trim(s, " \t\r") == "" || strings.HasPrefix(strings.Trim(s, " \t\r"), "func") {
		return
	}
	ahead := "module m\nfunc f 0 0\n  ret\n\t "
	wantWrong(t, ahead+s, len(ahead)+strings.IndexFunc(s, func(r rune) bool { return !strings.ContainsRune(" \t\r", r) }))
}

func wantPrint(t *testing.T, m api.Module, want string, f api.Errno) {
	t.Helper()
	if s, e := asm.Print(m); s != want || e != f {
		t.Errorf("Print: %q, %d, not %q, %d", short(s), e, short(want), f)
	}
}

// wantModule asks for a module's text, and for it back.
func wantModule(t *testing.T, m api.Module, want string) {
	t.Helper()
	wantPrint(t, m, want, api.OK)
	wantParse(t, want, m)
}

func wantParse(t *testing.T, s string, want api.Module) {
	t.Helper()
	if m, e, at := asm.Parse(s); !sameModule(m, want) || e != api.OK || at != 0 {
		t.Errorf("Parse(%q): %v, %d, %d, not %v", short(s), short(m.Name), e, at, want)
	}
}

// wantNone asks of a text that is refused: nothing else is told but why, and where.
func wantNone(t *testing.T, s string, f api.Errno, place int) {
	t.Helper()
	if m, e, at := asm.Parse(s); !reflect.DeepEqual(m, api.Module{}) || e != f || at != place {
		t.Errorf("Parse(%q): %q with %d functions, %d, %d, not %d, %d", short(s), short(m.Name), len(m.Funcs), e, at, f, place)
	}
}

// wantWrong asks for the place of a text's first wrong line.
func wantWrong(t *testing.T, s string, place int) {
	t.Helper()
	wantNone(t, s, api.ErrAsm, place)
}

func repeat(n int, i api.Instr) []api.Instr { return slices.Repeat([]api.Instr{i}, n) }
