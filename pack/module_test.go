package pack_test

import (
	"slices"
	"strconv"
	"strings"
	"testing"

	"carousel/api"
	"carousel/code"
	"carousel/pack"
)

type instrRow struct {
	i api.Instr
	s string
}

// instrs are some of each operation, with their bytes: they may be in plain behind its first place.
func instrs() []instrRow {
	any := by(1)
	l := []instrRow{
		{push(null()), by(1, 1)}, {push(boolean(1)), by(1, 2, 1)}, {push(in(-3)), by(1, 3, 5)}, {push(comp(1, 2)), by(1, 4, 2, 4)}, {push(atom("a")), by(1, 5, 1, 97)}, {push(pid(3, 300)), by(1, 6, 3, 172, 2)}, {push(ref(9)), by(1, 7, 9)}, {push(tuple(list())), by(1, 8, 1, 9, 0)},
		{opA(api.OpDup, 0), by(3, 0)}, {opA(api.OpDup, 127), by(3, 127)}, {opA(api.OpDup, 128), by(3, 128, 1)}, {opA(api.OpDup, 254), by(3, 254, 1)},
		{opA(api.OpLoad, 0), by(4, 0)}, {opA(api.OpLoad, 31), by(4, 31)}, {opA(api.OpStore, 0), by(5, 0)}, {opA(api.OpStore, 31), by(5, 31)}, {opA(api.OpKind, 1), by(17, 1)}, {opA(api.OpKind, 9), by(17, 9)},
		{opA(api.OpTuple, 0), by(18, 0)}, {opA(api.OpTuple, 255), by(18, 255, 1)}, {opA(api.OpList, 0), by(19, 0)}, {opA(api.OpList, 255), by(19, 255, 1)},
		{opA(api.OpJump, 0), by(25, 0)}, {opA(api.OpJump, 1), by(25, 1)}, {opA(api.OpIf, 0), by(26, 0)}, {opA(api.OpIf, 1), by(26, 1)}, {opA(api.OpCall, 0), by(28, 0)},
		{spawn(0, 0), by(34, 0, 0)}, {spawn(0, 1), by(34, 0, 1)}, {spawn(0, 2), by(34, 0, 2)},
		{match(0), by(27, 0, 0)}, {match(1), by(27, 1, 0)}, {match(1, arms(0)...), by(27, 1, 1, 1, 0)}, {match(0, arms(1, 0)...), by(27, 0, 2, 1, 1, 1, 0)}, {match(0, arms(make([]int, 32)...)...), by(27, 0, 32) + strings.Repeat(any+"\x00", 32)},
		{recv(0, -1), by(33, 0, 1, 0)}, {recv(0, 0), by(33, 0, 0, 0)}, {recv(1, 1), by(33, 1, 2, 0)}, {recv(1, 63), by(33, 1, 126, 0)}, {recv(1, 64), by(33, 1, 128, 1, 0)}, {recv(1, 1<<20), by(33, 1, 128, 128, 128, 1, 0)}, {recv(0, -1, arms(1, 1)...), by(33, 0, 1, 2, 1, 1, 1, 1)}, {recv(1, 5, arms(0)...), by(33, 1, 10, 1, 1, 0)},
	}
	for _, x := range patterns() {
		l = append(l, instrRow{match(0, arm(x.p, 1)), by(27, 0, 1) + x.s + by(1)}, instrRow{recv(0, -1, arm(whatever(), 0), arm(x.p, 1)), by(33, 0, 1, 2, 1, 0) + x.s + by(1)})
	}
	for n := api.OpPush; n <= api.OpYield; n++ {
		if modelFields(n) == "" {
			l = append(l, instrRow{op(n), by(byte(n))})
		}
	}
	return l
}

type patternRow struct {
	p api.Pattern
	s string
}

// patterns are some of each kind, with their bytes.
func patterns() []patternRow {
	l := []patternRow{
		{whatever(), by(1)}, {local(0), by(2, 0)}, {local(31), by(2, 31)}, {ofKind(1), by(4, 1)}, {ofKind(9), by(4, 9)},
		{just(null()), by(3, 1)}, {just(in(-3)), by(3, 3, 5)}, {just(atom("ok")), by(3, 5, 2, 'o', 'k')}, {just(comp(-1, 64)), by(3, 4, 1, 128, 1)}, {just(pid(3, 300)), by(3, 6, 3, 172, 2)}, {just(ref(1)), by(3, 7, 1)}, {just(boolean(0)), by(3, 2, 0)},
		{tup(), by(5, 0)}, {tup(whatever()), by(5, 1, 1)}, {tup(local(1), just(in(0)), local(0)), by(5, 3, 2, 1, 3, 3, 0, 2, 0)},
		{lst(), by(6, 0, 0)}, {lst(whatever()), by(6, 1, 1, 0)}, {rest(whatever()), by(6, 0, 1, 1)}, {rest(local(7), local(6), ofKind(3)), by(6, 2, 2, 6, 4, 3, 1, 2, 7)}, {rest(rest(lst())), by(6, 0, 1, 6, 0, 1, 6, 0, 0)},
		{tup(slices.Repeat([]api.Pattern{whatever()}, 1023)...), by(5, 255, 7) + strings.Repeat("\x01", 1023)}, {lst(slices.Repeat([]api.Pattern{whatever()}, 128)...), by(6, 128, 1) + strings.Repeat("\x01", 128) + "\x00"},
	}
	for _, within := range []int{1, 2, 3, 4, 62, 63} {
		for _, p := range []api.Pattern{whatever(), just(in(-3)), tup()} {
			p := deepPattern(p, within)
			l = append(l, patternRow{p, modelPattern(p)})
		}
	}
	return l
}

func TestP81Modules(t *testing.T) {
	wantModule(t, mod(fun("f", 0, 0, push(null()), ret())), sealed("CRM1\x01m\x01\x01f\x00\x00\x02\x01\x01\x1d"))
	echo := api.Module{Name: "echo", Funcs: []api.Func{fun("main", 0, 2, recv(0, -1, arm(tup(local(0), local(1)), 1), arm(whatever(), 0)), opA(api.OpLoad, 0), opA(api.OpLoad, 1), op(api.OpSend), op(api.OpPop), opA(api.OpJump, 0))}}
	wantModule(t, echo, sealed("CRM1\x04echo\x01\x04main\x00\x02\x06"+by(33, 0, 1, 2, 5, 2, 2, 0, 2, 1, 1, 1, 0)+by(4, 0, 4, 1, 32, 2, 25, 0)))
	two := api.Module{Name: "two", Funcs: []api.Func{fun("a", 2, 3, opA(api.OpLoad, 2), ret()), fun("b", 0, 32, push(in(1)), push(in(2)), opA(api.OpCall, 0), push(in(1)), push(in(2)), spawn(0, 2), ret())}}
	wantModule(t, two, sealed("CRM1\x03two\x02\x01a\x02\x03\x02"+by(4, 2, 29)+"\x01b\x00\x20\x07"+by(1, 3, 2, 1, 3, 4, 28, 0, 1, 3, 2, 1, 3, 4, 34, 0, 2, 29)))
	// The sum's bytes, the lowest first.
	s := "CRM1\x01m\x01\x01f\x00\x00\x01\x21\x00\x01\x00"
	n := pack.Sum(s)
	wantModule(t, mod(fun("f", 0, 0, stop())), s+by(byte(n%256), byte(n/256%256), byte(n/65536%256), byte(n/16777216)))
}

func TestP81InstructionsThereAndBack(t *testing.T) {
	seen := map[int]bool{}
	for _, x := range instrs() {
		seen[x.i.Op] = true
		if s := modelInstr(x.i); s != x.s {
			t.Errorf("the test's own model of operation %d: %s, not %s", x.i.Op, show(s), show(x.s))
		}
		wantModule(t, plain(x.i), sealed(plainBytes(1, x.s)))
		wantModule(t, plain(ret(), x.i, op(api.OpYield)), sealed(plainBytes(3, "\x1d"+x.s+"\x2e")))
		wantModule(t, plain(x.i, x.i), sealed(plainBytes(2, x.s+x.s)))
	}
	if len(seen) != 46 {
		t.Error("operations of the samples:", len(seen))
	}
	for _, x := range terms() {
		wantModule(t, plain(push(x.t)), sealed(plainBytes(1, "\x01"+x.s)))
		if x.t.Kind < api.KindTuple {
			wantModule(t, plain(match(0, arm(just(x.t), 1))), sealed(plainBytes(1, by(27, 0, 1, 3)+x.s+by(1))))
		}
	}
}

// Places, ticks, functions, parameters, locals and how many there are, each about the edge of its bytes.
func TestP81NumbersOfModules(t *testing.T) {
	for _, n := range []int{2, 3, 126, 127, 128, 129, 1022, 1023} {
		rets := slices.Repeat([]api.Instr{ret()}, n-2)
		m := mod(fun("f", 0, 0, append([]api.Instr{stop(), opA(api.OpJump, n), recv(n, 0, arms(n)...)}, rets...)...), fun("g", 0, 0, stop()))
		code := by(33, 0, 1, 0) + "\x19" + c(n) + "\x21" + c(n) + by(0, 1, 1) + c(n) + strings.Repeat("\x1d", n-2)
		wantModule(t, m, sealed("CRM1\x01m\x02\x01f\x00\x00"+c(1+n)+code+"\x01g\x00\x00\x01"+by(33, 0, 1, 0)))
	}
	for n := 1; n <= 64; n++ {
		var l []api.Func
		s := "CRM1" + name("m") + c(n)
		for k := range n {
			f := "f" + strconv.Itoa(k)
			l = append(l, fun(f, k%33, 32, recv(0, -1), opA(api.OpCall, n-1), spawn(k, k%3)))
			s += name(f) + c(k%33, 32, 3) + by(33, 0, 1, 0) + "\x1c" + c(n-1) + "\x22" + c(k, k%3)
		}
		wantModule(t, mod(l...), sealed(s))
	}
	for _, n := range []int{1, 2, 63, 64} {
		long := strings.Repeat("q", n)
		wantModule(t, api.Module{Name: long, Funcs: []api.Func{fun(long, 0, 0, stop())}}, sealed("CRM1"+c(n)+long+"\x01"+c(n)+long+by(0, 0, 1, 33, 0, 1, 0)))
	}
	for b := range 21 {
		for _, n := range []int{1<<b - 1, 1 << b, max(0, 1<<b-2)} {
			wantModule(t, plain(recv(1, n)), sealed(plainBytes(1, "\x21\x01"+c(2*n)+"\x00")))
		}
	}
}

// refused are modules that layer 6 refuses.
func refused() []api.Module {
	return []api.Module{
		{}, {Name: "m"}, {Name: "M", Funcs: plain().Funcs}, {Name: "nil", Funcs: plain().Funcs}, mod(fun("", 0, 0, stop())), mod(fun("f", 0, 0)), mod(fun("f", 1, 0, stop())), mod(fun("f", 0, 33, stop())), mod(fun("f", 33, 33, stop())), mod(fun("f", 0, 0, stop()), fun("f", 0, 0, stop())),
		mod(fun("f", 0, 0, slices.Repeat([]api.Instr{stop()}, 1025)...)), mod(slices.Repeat([]api.Func{fun("f", 0, 0, stop())}, 65)...),
		plain(opA(api.OpDup, 255)), plain(opA(api.OpLoad, 32)), plain(opA(api.OpKind, 0)), plain(opA(api.OpKind, 10)), plain(opA(api.OpTuple, 256)), plain(opA(api.OpCall, 1)), plain(spawn(1, 0)), plain(spawn(0, 3)),
		plain(recv(1, -1)), plain(recv(1, -2)), plain(recv(0, 1<<20+1)), plain(match(0, arms(make([]int, 33)...)...)), plain(match(0, arm(local(32), 0))), plain(match(0, arm(tup(local(0), local(0)), 0))), plain(match(0, arm(just(list()), 0))), plain(match(0, arm(just(in(api.MinInt-1)), 0))), plain(match(0, arm(ofKind(0), 0))), plain(match(0, arm(ofKind(10), 0))),
		plain(push(ref(0))), plain(push(pid(256, 1))), plain(push(boolean(2))), plain(push(in(api.MinInt - 1))), plain(push(atom("nil"))), plain(push(atom(""))), plain(push(nulls(1024))),
		plain(opA(api.OpJump, 2)), plain(opA(api.OpIf, 2)), plain(match(2)), plain(recv(2, 0)), plain(recv(0, -1, arms(2)...)), plain(match(0, arms(0, 2)...)),
		mod(fun("f", 0, 0, ret())), mod(fun("f", 0, 0, push(null()))), mod(fun("f", 0, 0, push(null()), opA(api.OpJump, 0))), mod(fun("f", 0, 0, op(api.OpPop), stop())),
		plain(match(0, arm(tup(slices.Repeat([]api.Pattern{whatever()}, 1024)...), 0))),
	}
}

// What layer 6 refuses is told as it tells it: of a module, and, if it can be read, of its bytes.
func TestP82RefusedByLayer6(t *testing.T) {
	count := map[api.Errno]int{}
	for _, m := range refused() {
		e, _, _ := code.Check(m)
		count[e]++
		wantPack(t, m, "", e)
		s := modelPack(m)
		wantNone(t, s, e, 0)
		// Another sum is told ahead of that, and what can not be read ahead of the sum.
		wantNone(t, s[:len(s)-4]+"\x00\x00\x00\x00", api.ErrSum, len(s)-4)
		wantWrong(t, s+"\x00", len(s)-4)
		wantWrong(t, s[:len(s)-1], len(s)-4)
	}
	for _, e := range []api.Errno{api.ErrModule, api.ErrCode, api.ErrJump, api.ErrHeight, api.ErrFall} {
		if count[e] == 0 || count[api.OK] > 0 {
			t.Error("too few of", e, count)
		}
	}
}

// What has no bytes is refused by layer 6, too.
func TestP81RefusedWithoutBytes(t *testing.T) {
	for _, m := range []api.Module{mod(fun("f", -1, 0, stop())), mod(fun("f", least, least, stop())), mod(fun("f", 0, -1, stop()))} {
		wantPack(t, m, "", api.ErrModule)
	}
	for _, m := range []api.Module{
		plain(op(0)), plain(op(47)), plain(op(-1)), plain(op(least)), plain(opA(api.OpLoad, -1)), plain(opA(api.OpPop, 1)), plain(push(api.Term{})), plain(push(endlessTerm())), plain(push(deepTerm(64))), plain(push(comp(0.5, 0))), plain(push(comp(1<<30+1, 0))), plain(push(in(api.MaxInt + 1))), plain(push(in(least))),
		plain(match(0, arm(api.Pattern{}, 0))), plain(match(0, arm(endlessPattern(), 0))), plain(match(0, arm(deepPattern(whatever(), 64), 0))), plain(match(0, arm(api.Pattern{Kind: 7}, 0))), plain(match(0, arm(api.Pattern{Kind: api.PatList, Rest: []api.Pattern{whatever(), whatever()}}, 0))), plain(match(0, arm(local(-1), 0))), plain(match(0, arm(api.Pattern{Kind: api.PatAny, N: 1}, 0))),
		plain(recv(0, least)), plain(recv(0, most)), plain(api.Instr{Op: api.OpRet, B: 1}), plain(api.Instr{Op: api.OpYield, Arms: arms(0)}), plain(api.Instr{Op: api.OpJump, Term: null()}),
	} {
		wantPack(t, m, "", api.ErrCode)
	}
	for _, to := range []int{-1, least, most, 1 << 40} {
		wantPack(t, plain(opA(api.OpJump, to)), "", api.ErrJump)
		wantPack(t, plain(recv(0, -1, arms(to)...)), "", api.ErrJump)
	}
}

// sized is a module of just so many bytes, some thousands at least.
func sized(n int) api.Module {
	// As there are 128 instructions from the beginning on, how many there are never has more bytes than two.
	l := append([]api.Instr{stop()}, slices.Repeat([]api.Instr{ret()}, 127)...)
	l = append(l, slices.Repeat([]api.Instr{push(nulls(1000))}, (n-500)/1004)...)
	left := n - len(modelPack(mod(fun("f", 0, 0, l...))))
	for ; left >= 504; left -= 504 {
		l = append(l, push(nulls(500)))
	}
	return mod(fun("f", 0, 0, append(l, slices.Repeat([]api.Instr{ret()}, left)...)...))
}

func TestP81HowManyBytes(t *testing.T) {
	for _, n := range []int{api.MaxText - 3, api.MaxText - 2, api.MaxText - 1, api.MaxText} {
		m := sized(n)
		s := modelPack(m)
		if len(s) != n || len(m.Funcs[0].Code) > api.MaxCode {
			t.Fatal("a module of another size:", len(s), n, len(m.Funcs[0].Code))
		}
		wantModule(t, m, s)
		wantNone(t, s[:len(s)-1]+by(s[len(s)-1]+1), api.ErrSum, n-4)
	}
	for _, n := range []int{api.MaxText + 1, api.MaxText + 2, api.MaxText + 3, api.MaxText + 4, api.MaxText + 5, api.MaxText + 400, 1 << 19} {
		m := sized(n)
		if s := modelPack(m); len(s) != n || len(m.Funcs[0].Code) > api.MaxCode {
			t.Fatal("a module of another size:", len(s), n, len(m.Funcs[0].Code))
		}
		wantPack(t, m, "", api.ErrLong)
		wantNone(t, modelPack(m), api.ErrLong, 0)
		// What layer 6 refuses is told ahead of that.
		m.Funcs = append(m.Funcs, fun("g", 0, 0, ret()))
		wantPack(t, m, "", api.ErrHeight)
		m.Funcs[1] = fun("g", 0, 0, stop(), op(0))
		wantPack(t, m, "", api.ErrCode)
		m.Funcs[1] = fun("f", 0, 0, stop())
		wantPack(t, m, "", api.ErrModule)
		m.Funcs[1] = fun("g", 0, 0, stop())
		wantPack(t, m, "", api.ErrLong)
	}
}

// A module whose lists are shared may be small, and its bytes far too many.
func TestP81SharedLists(t *testing.T) {
	wide := slices.Repeat([]api.Pattern{just(atom(strings.Repeat("q", 64)))}, 1023)
	l := slices.Repeat([]api.Arm{arm(tup(wide...), 0)}, 32)
	wantPack(t, plain(slices.Repeat([]api.Instr{match(0, l...)}, 100)...), "", api.ErrLong)
	wantPack(t, plain(slices.Repeat([]api.Instr{push(list(slices.Repeat([]api.Term{atom(strings.Repeat("q", 64))}, 1023)...))}, 1000)...), "", api.ErrLong)
	m := plain(slices.Repeat([]api.Instr{push(nulls(200))}, 1000)...)
	wantModule(t, m, modelPack(m))
}

func TestP82HowManyBytes(t *testing.T) {
	for _, b := range []string{"\x00", "\x01", "\x80", "\xff"} {
		for _, ahead := range []string{"", "CRM1", sealed(plainBytes(1, "\x1d"))} {
			s := ahead + strings.Repeat(b, api.MaxText-len(ahead))
			if e := held(t, s); e != api.ErrPack {
				t.Errorf("Unpack(%s): %d", show(s), e)
			}
			wantNone(t, s+b, api.ErrLong, 0)
			wantNone(t, s+s, api.ErrLong, 0)
		}
	}
}
