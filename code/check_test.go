package code_test

import (
	"strings"
	"testing"

	"carousel/api"
)

// noAtoms are texts that are no names.
func noAtoms() []string {
	return []string{"", "nil", "true", "false", "A", "F", "1", "_", "_a", "a b", " a", "a ", "a-b", "a.", "\x00", "a\x00", "é", "aé", "a\xff", strings.Repeat("q", 65), strings.Repeat("q", 1000)}
}

// atoms are texts that are.
func atoms() []string {
	return []string{"a", "z", "nul", "nill", "truE", "false_", "push", "aZ09_", strings.Repeat("q", 64), "f" + strings.Repeat("Z", 63)}
}

func TestP62TheModulesName(t *testing.T) {
	for _, s := range atoms() {
		wantCheck(t, api.Module{Name: s, Funcs: funcs(2)}, api.OK, 0, 0)
	}
	for _, s := range noAtoms() {
		wantRefused(t, api.Module{Name: s, Funcs: funcs(2)}, api.ErrModule, 0, 0)
		wantRefused(t, api.Module{Name: s}, api.ErrModule, 0, 0)
	}
	wantRefused(t, api.Module{}, api.ErrModule, 0, 0)
}

func TestP62HowManyFunctions(t *testing.T) {
	for _, n := range []int{1, 2, 63, 64} {
		wantCheck(t, mod(funcs(n)...), api.OK, 0, 0)
	}
	for _, n := range []int{0, 65, 66, 128, 1000, 65536} {
		wantRefused(t, mod(funcs(n)...), api.ErrModule, 0, 0)
	}
	wantRefused(t, api.Module{Name: "m", Funcs: []api.Func{}}, api.ErrModule, 0, 0)
	// What lies behind the end of the list is none of it.
	wantCheck(t, mod(funcs(65)[:64]...), api.OK, 0, 0)
	wantRefused(t, api.Module{Name: "m", Funcs: funcs(1)[:0]}, api.ErrModule, 0, 0)
}

// wantFunc asks of a function whether it may be, as one of several, at each place among them.
func wantFunc(t *testing.T, f api.Func, want api.Errno) {
	t.Helper()
	for fn := range 4 {
		l := funcs(4)
		l[fn] = f
		if want == api.OK {
			wantCheck(t, mod(l...), api.OK, 0, 0)
		} else {
			wantRefused(t, mod(l...), want, fn, 0)
		}
	}
	l := funcs(64)
	l[63] = f
	if want != api.OK {
		wantRefused(t, mod(l...), want, 63, 0)
	}
}

func TestP62TheFunctionsNames(t *testing.T) {
	for _, s := range atoms() {
		wantFunc(t, fun(s, 0, 0, stop()), api.OK)
	}
	for _, s := range noAtoms() {
		wantFunc(t, fun(s, 0, 0, stop()), api.ErrModule)
	}
	// A function may bear its module's name.
	wantFunc(t, fun("m", 0, 0, stop()), api.OK)
	for fn := range 64 {
		for _, ahead := range []int{0, fn / 2, fn - 1} {
			if ahead < 0 || ahead == fn {
				continue
			}
			l := funcs(64)
			l[fn].Name = l[ahead].Name
			wantCheck(t, mod(l...), api.ErrModule, fn, 0)
		}
	}
	l := funcs(5)
	l[4].Name, l[3].Name, l[2].Name = "f0", "f0", "f1"
	wantRefused(t, mod(l...), api.ErrModule, 2, 0)
	l[2].Name = "f2"
	wantRefused(t, mod(l...), api.ErrModule, 3, 0)
	long := strings.Repeat("q", 63)
	wantFunc(t, fun("f1"+strings.Repeat("q", 62), 0, 0, stop()), api.OK)
	wantCheck(t, mod(fun(long+"a", 0, 0, stop()), fun(long+"b", 0, 0, stop()), fun(long, 0, 0, stop())), api.OK, 0, 0)
	wantCheck(t, mod(fun(long+"a", 0, 0, stop()), fun(long+"a", 1, 1, stop())), api.ErrModule, 1, 0)
}

func TestP62ParamsAndLocals(t *testing.T) {
	for _, x := range []struct {
		params, locals int
		e              api.Errno
	}{
		{0, 0, api.OK}, {0, 1, api.OK}, {1, 1, api.OK}, {0, 32, api.OK}, {31, 32, api.OK}, {32, 32, api.OK}, {16, 17, api.OK},
		{-1, 0, api.ErrModule}, {-1, 5, api.ErrModule}, {-1, -1, api.ErrModule}, {-2, -1, api.ErrModule}, {0, -1, api.ErrModule}, {least, 0, api.ErrModule}, {least, least, api.ErrModule}, {0, least, api.ErrModule}, {least, most, api.ErrModule},
		{1, 0, api.ErrModule}, {2, 1, api.ErrModule}, {33, 32, api.ErrModule}, {32, 31, api.ErrModule}, {most, 32, api.ErrModule}, {most, 0, api.ErrModule},
		{0, 33, api.ErrModule}, {33, 33, api.ErrModule}, {32, 33, api.ErrModule}, {5, 1000, api.ErrModule}, {0, most, api.ErrModule}, {most, most, api.ErrModule}, {0, 1 << 32, api.ErrModule}, {1 << 32, 1 << 32, api.ErrModule},
	} {
		wantFunc(t, fun("g", x.params, x.locals, stop()), x.e)
	}
}

func TestP62HowManyInstructions(t *testing.T) {
	for _, n := range []int{1, 2, 1023, 1024} {
		wantFunc(t, fun("g", 0, 0, repeat(n, stop())...), api.OK)
		wantFunc(t, fun("g", 0, 0, repeat(n, jump(0))...), api.OK)
	}
	for _, n := range []int{0, 1025, 1026, 2048, 65536} {
		wantFunc(t, fun("g", 0, 0, repeat(n, stop())...), api.ErrModule)
	}
	wantFunc(t, api.Func{Name: "g", Code: []api.Instr{}}, api.ErrModule)
	wantFunc(t, fun("g", 0, 0, repeat(1025, stop())[:1024]...), api.OK)
}

// samples are instructions that may be in a function of two locals and three places, of a module of two functions: one of each operation at least.
func samples() []api.Instr {
	l := []api.Instr{
		one(), push(yes()), push(atom("a")), push(api.Term{Kind: api.KindNil}), push(api.Term{Kind: api.KindComplex, C: 1i}), push(list(in(1), list())),
		opA(api.OpDup, 0), opA(api.OpDup, 254), opA(api.OpLoad, 0), opA(api.OpLoad, 1), opA(api.OpStore, 0), opA(api.OpStore, 1), opA(api.OpKind, 1), opA(api.OpKind, 9),
		opA(api.OpTuple, 0), opA(api.OpTuple, 255), opA(api.OpList, 0), opA(api.OpList, 255), jump(0), jump(2), iff(0), iff(2), opA(api.OpCall, 0), opA(api.OpCall, 1),
		match(0), match(2), match(1, arms(0, 1, 2)...), match(0, arm(local(0), 1), arm(tup(local(1), local(0)), 2)),
		recv(0, -1), recv(0, 0), recv(2, 0), recv(1, 5), recv(2, 1<<20), recv(0, -1, arms(0, 2)...), recv(2, 3, arm(tup(local(1), whatever()), 0)),
		spawn(0, 0), spawn(1, 1), spawn(0, 2), spawn(1, 2),
	}
	for n := api.OpPop; n <= api.OpYield; n++ {
		if named(n) == "" {
			l = append(l, op(n))
		}
	}
	return l
}

// named are the fields that an operation names: A, B, T (Term), R (Arms).
func named(n int) string {
	switch n {
	case api.OpPush:
		return "T"
	case api.OpDup, api.OpLoad, api.OpStore, api.OpKind, api.OpTuple, api.OpList, api.OpJump, api.OpIf, api.OpCall:
		return "A"
	case api.OpMatch:
		return "AR"
	case api.OpSpawn:
		return "AB"
	case api.OpRecv:
		return "ABR"
	}
	return ""
}

func TestP62InstructionsThatMayBe(t *testing.T) {
	seen := map[int]bool{}
	for _, i := range samples() {
		wantInstr(t, i, 2, api.OK)
		seen[i.Op] = true
	}
	if len(seen) != 46 {
		t.Error("operations of the samples:", len(seen))
	}
}

func TestP62NoOperation(t *testing.T) {
	for _, n := range noOps() {
		for _, i := range samples() {
			i.Op = n
			wantInstr(t, i, 2, api.ErrCode)
		}
		wantInstr(t, op(n), 0, api.ErrCode)
	}
}

// Each field that an operation does not name is zero.
func TestP62FieldsThatAreNotNamed(t *testing.T) {
	terms := []api.Term{{Kind: api.KindNil}, {Kind: -1}, {N: 1}, {N: -1}, {C: 1}, {C: 1i}, {S: "a"}, {S: "\x00"}, {P: api.Pid{N: 1}}, {P: api.Pid{Gen: 1}}, {L: []api.Term{{}}}, in(0), endlessTerm()}
	for _, i := range samples() {
		has := named(i.Op)
		for _, n := range append(wild(), 1, -1, 2, 9) {
			a, b := i, i
			a.A, b.B = n, n
			if !strings.Contains(has, "A") {
				wantInstr(t, a, 2, api.ErrCode)
			}
			if !strings.Contains(has, "B") {
				wantInstr(t, b, 2, api.ErrCode)
			}
		}
		for _, x := range terms {
			if j := i; !strings.Contains(has, "T") {
				j.Term = x
				wantInstr(t, j, 2, api.ErrCode)
			}
		}
		for _, l := range [][]api.Arm{make([]api.Arm, 1), arms(0), arms(0, 0), {arm(endlessPattern(), 0)}} {
			if j := i; !strings.Contains(has, "R") {
				j.Arms = l
				wantInstr(t, j, 2, api.ErrCode)
			}
		}
	}
}

// nil and the empty list are the same.
func TestP62EmptyLists(t *testing.T) {
	for _, i := range samples() {
		if len(i.Arms) == 0 {
			i.Arms = []api.Arm{}
		}
		if i.Term.Kind == 0 {
			i.Term.L = []api.Term{}
		}
		wantInstr(t, i, 2, api.OK)
		if len(i.Arms) == 0 {
			i.Arms = []api.Arm{{To: -1}}[:0]
			wantInstr(t, i, 2, api.OK)
		}
	}
}

// bound is an instruction with one of its fields at some values.
type bound struct {
	make  func(n int) api.Instr
	ok    []int // may be
	code  []int // may not be
	jumps []int // are places that are none
}

// bounds are those of the document's table of instructions, for two locals, three places and two functions.
func bounds() []bound {
	outside := append(wild(), -2, -1, 3, 4, 1000, 1024, 1025)
	var l []bound
	for n, x := range map[int]bound{
		api.OpDup:   {ok: []int{0, 1, 253, 254}, code: append(wild(), -2, -1, 255, 256, 257)},
		api.OpLoad:  {ok: []int{0, 1}, code: append(wild(), -2, -1, 2, 3, 31, 32)},
		api.OpStore: {ok: []int{0, 1}, code: append(wild(), -2, -1, 2, 3, 31, 32)},
		api.OpKind:  {ok: []int{1, 2, 3, 4, 5, 6, 7, 8, 9}, code: append(wild(), -1, 0, 10, 11)},
		api.OpTuple: {ok: []int{0, 1, 2, 254, 255}, code: append(wild(), -2, -1, 256, 257)},
		api.OpList:  {ok: []int{0, 1, 2, 254, 255}, code: append(wild(), -2, -1, 256, 257)},
		api.OpCall:  {ok: []int{0, 1}, code: append(wild(), -2, -1, 2, 3, 63, 64)},
		api.OpJump:  {ok: []int{0, 1, 2}, jumps: outside},
		api.OpIf:    {ok: []int{0, 1, 2}, jumps: outside},
	} {
		x.make = func(a int) api.Instr { return opA(n, a) }
		l = append(l, x)
	}
	ticks := []int{0, 1, 2, 1<<20 - 1, 1 << 20}
	noTicks := append(wild(), -3, -2, 1<<20+1, 1<<20+2, 1<<21)
	return append(l,
		bound{func(a int) api.Instr { return match(a) }, []int{0, 1, 2}, nil, outside},
		bound{func(a int) api.Instr { return match(a, arms(0)...) }, []int{0, 1, 2}, nil, outside},
		bound{func(to int) api.Instr { return match(0, arms(to)...) }, []int{0, 1, 2}, nil, outside},
		bound{func(to int) api.Instr { return match(0, arms(0, to, 1)...) }, []int{0, 1, 2}, nil, outside},
		bound{func(to int) api.Instr { return recv(0, -1, arms(to)...) }, []int{0, 1, 2}, nil, outside},
		bound{func(to int) api.Instr { return recv(0, 7, arms(1, 2, to)...) }, []int{0, 1, 2}, nil, outside},
		bound{func(a int) api.Instr { return recv(a, 0) }, []int{0, 1, 2}, nil, outside},
		bound{func(a int) api.Instr { return recv(a, 1<<20, arms(1)...) }, []int{0, 1, 2}, nil, outside},
		bound{func(a int) api.Instr { return recv(a, -1, arms(1)...) }, []int{0}, append(wild(), -2, -1, 1, 2, 3, 4), nil},
		bound{func(b int) api.Instr { return recv(0, b) }, append(ticks, -1), noTicks, nil},
		bound{func(b int) api.Instr { return recv(2, b, arms(1)...) }, ticks, append(noTicks, -1), nil},
		bound{func(b int) api.Instr { return recv(3, b) }, nil, append(noTicks, -1), ticks},
		bound{func(a int) api.Instr { return spawn(a, 1) }, []int{0, 1}, append(wild(), -2, -1, 2, 3, 63, 64), nil},
		bound{func(b int) api.Instr { return spawn(1, b) }, []int{0, 1, 2}, append(wild(), -2, -1, 3, 4), nil},
	)
}

func TestP62Bounds(t *testing.T) {
	for _, x := range bounds() {
		for _, n := range x.ok {
			wantInstr(t, x.make(n), 2, api.OK)
		}
		for _, n := range x.code {
			wantInstr(t, x.make(n), 2, api.ErrCode)
		}
		for _, n := range x.jumps {
			wantInstr(t, x.make(n), 2, api.ErrJump)
		}
	}
}

// Locals are the function's own, as many as it has.
func TestP62LocalsOfAFunction(t *testing.T) {
	for _, locals := range []int{0, 1, 5, 31, 32} {
		for _, a := range []int{-1, 0, 1, locals - 1, locals, locals + 1, 32} {
			want := api.ErrCode
			if a >= 0 && a < locals {
				want = api.OK
			}
			wantInstr(t, opA(api.OpLoad, a), locals, want)
			wantInstr(t, opA(api.OpStore, a), locals, want)
			for _, p := range []api.Pattern{local(a), tup(whatever(), local(a)), {Kind: api.PatList, Rest: []api.Pattern{local(a)}}} {
				wantInstr(t, match(0, arm(p, 1)), locals, want)
				wantInstr(t, match(0, arm(whatever(), 1), arm(p, 1)), locals, want)
				wantInstr(t, recv(0, -1, arm(p, 1)), locals, want)
				wantInstr(t, recv(0, 9, arm(whatever(), 1), arm(p, 1)), locals, want)
			}
		}
	}
	many, few := fun("f", 3, 3, stop(), opA(api.OpLoad, 2)), fun("g", 0, 2, stop(), opA(api.OpLoad, 2))
	wantRefused(t, mod(many, few), api.ErrCode, 1, 1)
	wantRefused(t, mod(few, many), api.ErrCode, 0, 1)
}

func TestP62Terms(t *testing.T) {
	long := make([]api.Term, 1024)
	for k := range long {
		long[k] = in(k)
	}
	for _, x := range []api.Term{in(api.MaxInt), in(api.MinInt), list(long[:1023]...), deepTerm(63), {Kind: api.KindPid, P: api.Pid{N: 255, Gen: 1}}, {Kind: api.KindRef, N: 1}, atom(strings.Repeat("q", 64)), {Kind: api.KindTuple}} {
		wantInstr(t, push(x), 0, api.OK)
	}
	for _, x := range []api.Term{{}, {Kind: 10}, in(api.MaxInt + 1), in(most), atom("nil"), atom(""), list(long...), deepTerm(64), deepTerm(1000), endlessTerm(), list(in(1), api.Term{}), {Kind: api.KindInt, S: "a"}, {Kind: api.KindRef}} {
		wantInstr(t, push(x), 0, api.ErrCode)
	}
}

func TestP62Arms(t *testing.T) {
	for _, n := range []int{0, 1, 2, 31, 32, 33, 34, 1000} {
		want := api.OK
		if n > 32 {
			want = api.ErrCode
		}
		l := arms(make([]int, n)...)
		wantInstr(t, match(0, l...), 0, want)
		wantInstr(t, recv(0, -1, l...), 0, want)
		wantInstr(t, recv(2, 5, l...), 0, want)
	}
	wantInstr(t, match(0, arms(make([]int, 33)...)[:32]...), 0, api.OK)
	// A local may stand in two arms, but not in one pattern twice.
	wantInstr(t, match(0, arm(local(0), 1), arm(local(0), 2), arm(tup(local(0)), 0)), 1, api.OK)
	wide := make([]api.Pattern, 1024)
	for k := range wide {
		wide[k] = whatever()
	}
	for _, p := range []api.Pattern{tup(wide[:1023]...), deepPattern(63), {Kind: api.PatTerm, Term: in(1)}} {
		wantInstr(t, match(0, arm(p, 1)), 2, api.OK)
		wantInstr(t, recv(0, -1, arm(p, 1)), 2, api.OK)
	}
	for _, p := range []api.Pattern{
		{}, {Kind: 7}, {Kind: api.PatAny, N: 1}, tup(local(0), local(0)), tup(local(0), local(2)), tup(api.Pattern{}), {Kind: api.PatTerm, Term: list()}, {Kind: api.PatTerm, Term: endlessTerm()},
		{Kind: api.PatList, Rest: []api.Pattern{whatever(), whatever()}}, tup(wide...), deepPattern(64), endlessPattern(),
	} {
		for _, k := range []int{0, 1, 31} {
			l := arms(make([]int, 32)...)
			l[k].Pattern = p
			wantInstr(t, match(0, l...), 2, api.ErrCode)
			wantInstr(t, recv(0, -1, l...), 2, api.ErrCode)
			wantInstr(t, recv(1, 1, l...), 2, api.ErrCode)
		}
	}
}
