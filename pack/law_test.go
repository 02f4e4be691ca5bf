package pack_test

import (
	"math"
	"strconv"
	"strings"
	"testing"
	"unsafe"

	"carousel/api"
	"carousel/asm"
	"carousel/code"
	"carousel/pack"
)

// numbers are told one by one by a rule that is the same each time.
type numbers uint64

// below is a number from 0 on and below n.
func (x *numbers) below(n int) int {
	*x = *x*6364136223846793005 + 1442695040888963407
	return int(uint64(*x)>>33) % n
}

func (x *numbers) term(deep int) api.Term {
	n := 9
	if deep == 0 {
		n = 7
	}
	switch kind := 1 + x.below(n); kind {
	case api.KindBool:
		return boolean(x.below(2))
	case api.KindInt:
		return in([]int{0, -1, 63, 64, api.MaxInt, api.MinInt, x.below(1000) - 500, x.below(1 << 30)}[x.below(8)])
	case api.KindComplex:
		part := func() float64 {
			return float64([]int{0, 1, -1, 64, 1 << 30, -1 << 30, x.below(2001) - 1000}[x.below(7)])
		}
		return comp(part(), part())
	case api.KindAtom:
		return atom([]string{"a", "push", "ok", "z_Z9", strings.Repeat("q", 64), "b" + strconv.Itoa(x.below(1000))}[x.below(6)])
	case api.KindPid:
		return pid(x.below(256), 1+x.below(500))
	case api.KindRef:
		return ref([]int{1, 127, 128, 1 << 14, api.MaxInt, 1 + x.below(99)}[x.below(6)])
	case api.KindTuple, api.KindList:
		t := api.Term{Kind: kind}
		for range x.below(4) {
			t.L = append(t.L, x.term(deep-1))
		}
		return t
	}
	return null()
}

// pattern is one with locals from some number on, none twice.
func (x *numbers) pattern(deep int, next *int) api.Pattern {
	n := 6
	if deep == 0 {
		n = 4
	}
	switch x.below(n) {
	case 0:
		*next++
		if *next <= 32 {
			return local(*next - 1)
		}
	case 1:
		return just(x.term(0))
	case 2:
		return ofKind(1 + x.below(9))
	case 4, 5:
		p := tup()
		for range x.below(4) {
			p.L = append(p.L, x.pattern(deep-1, next))
		}
		if x.below(2) == 0 {
			p.Kind = api.PatList
			if x.below(2) == 0 {
				p.Rest = append(p.Rest, x.pattern(deep-1, next))
			}
		}
		return p
	}
	return whatever()
}

// instr is one that may be in a function of 20 places and 32 locals, of a module of some functions.
func (x *numbers) instr(funcs int) api.Instr {
	i := op(1 + x.below(46))
	switch i.Op {
	case api.OpPush:
		i.Term = x.term(4)
	case api.OpDup, api.OpTuple, api.OpList:
		i.A = x.below(255)
	case api.OpLoad, api.OpStore:
		i.A = x.below(32)
	case api.OpKind:
		i.A = 1 + x.below(9)
	case api.OpJump, api.OpIf, api.OpMatch:
		i.A = x.below(20)
	case api.OpCall, api.OpSpawn:
		i.A = x.below(funcs)
	case api.OpRecv:
		if i.B = []int{-1, 0, 1 << 20, x.below(300)}[x.below(4)]; i.B >= 0 {
			i.A = x.below(20)
		}
	}
	if i.Op == api.OpSpawn {
		i.B = x.below(3)
	}
	if i.Op == api.OpMatch || i.Op == api.OpRecv {
		for range x.below(5) + 28*x.below(2)*x.below(2) {
			next := x.below(5)
			i.Arms = append(i.Arms, arm(x.pattern(4, &next), x.below(20)))
		}
	}
	return i
}

// module is one that may be run: what is drawn for it stands where it is never come to.
func (x *numbers) module() api.Module {
	m := api.Module{Name: "m" + strconv.Itoa(x.below(100))}
	n := 1 + x.below(4)
	for k := range n {
		f := fun("f"+strconv.Itoa(k), x.below(33), 32, stop())
		for len(f.Code) < 20 {
			f.Code = append(f.Code, x.instr(n))
		}
		m.Funcs = append(m.Funcs, f)
	}
	return m
}

func TestP84ModulesThereAndBack(t *testing.T) {
	x := numbers(1)
	for range 1000 {
		m := x.module()
		if e, fn, at := code.Check(m); e != api.OK {
			t.Fatal("a module that may not be run:", e, fn, at)
		}
		wantModule(t, m, modelPack(m))
	}
}

// What Unpack takes of drawn bytes, whose sum is made for them, is packed as the same bytes.
func TestP84DrawnBytes(t *testing.T) {
	x := numbers(2)
	count := map[api.Errno]int{}
	for range 3000 {
		s := []byte(modelPack(x.module()))
		s = s[:len(s)-4]
		for range 1 + x.below(2) {
			s[4+x.below(len(s)-4)] = byte([]int{0, 1, 2, 3, 5, 29, 46, 128, x.below(256)}[x.below(9)])
		}
		count[held(t, sealed(string(s)))]++
	}
	wantKinds(t, count, api.OK, api.ErrPack, api.ErrModule, api.ErrCode, api.ErrJump)
}

// small are some packed modules of few bytes, of many kinds of instructions.
func small() []string {
	x := numbers(3)
	l := []string{sealed("CRM1\x01m\x01\x01f\x00\x00\x02\x01\x01\x1d"), sealed("CRM1\x01m\x02\x01f\x00\x00\x01\x21\x00\x01\x00\x01g\x00\x00\x01\x21\x00\x01\x00")}
	for _, r := range instrs() {
		if len(r.s) < 20 {
			l = append(l, sealed(plainBytes(1, r.s)), sealed(plainBytes(2, r.s+r.s)))
		}
	}
	for len(l) < 200 {
		if s := modelPack(x.module()); len(s) < 250 {
			l = append(l, s)
		}
	}
	return l
}

// wantChanged asks of bytes that were a module's: they are no longer.
func wantChanged(t *testing.T, s string) {
	t.Helper()
	if e := held(t, s); e == api.OK {
		t.Errorf("Unpack(%s) takes what was changed", show(s))
	}
}

func TestP85ChangedBytes(t *testing.T) {
	for n, s := range small() {
		if held(t, s) != api.OK {
			t.Fatal("no module:", show(s))
		}
		for k := range s {
			for d := 1; d < 256; d += 1 + n%7 {
				wantChanged(t, s[:k]+by(s[k]+byte(d))+s[k+1:])
			}
			wantChanged(t, s[:k])
			if k > 0 && s[k-1] != s[k] {
				wantChanged(t, s[:k-1]+by(s[k], s[k-1])+s[k+1:])
			}
		}
		for b := range 256 {
			wantChanged(t, s+by(byte(b)))
			wantChanged(t, s+by(byte(b), byte(b)))
		}
		for n := range 10 {
			wantChanged(t, s+strings.Repeat("\x00", n+1))
			wantChanged(t, s+s[len(s)-n-1:])
		}
		wantChanged(t, s+s)
		wantChanged(t, sealed(s))
	}
}

// The same of a module of many bytes: the sums go round.
func TestP85ChangedBytesOfMany(t *testing.T) {
	s := modelPack(sized(1 << 12))
	for k := 0; k < len(s); k++ {
		for _, d := range []byte{1, 128, 255} {
			if e := unpacked(s[:k] + by(s[k]+d) + s[k+1:]); e == api.OK {
				t.Error("a changed byte is taken, at", k, d)
			}
		}
		if k > 0 && s[k-1] != s[k] && unpacked(s[:k-1]+by(s[k], s[k-1])+s[k+1:]) == api.OK {
			t.Error("two exchanged bytes are taken, at", k)
		}
		if k%16 == 0 && unpacked(s[:k]) == api.OK {
			t.Error("a beginning is taken, of", k)
		}
	}
}

func unpacked(s string) api.Errno {
	_, e, _ := pack.Unpack(s)
	return e
}

// Layers 7 and 8 together: a module is the same as a text and as bytes, both there and back.
func TestP11PrintAndReadPackAndUnpack(t *testing.T) {
	x := numbers(6)
	for range 300 {
		m := x.module()
		text, e := asm.Print(m)
		if e != api.OK {
			t.Fatal("Print:", e)
		}
		read, e, _ := asm.Parse(text)
		bytes, f := pack.Pack(read)
		if e != api.OK || f != api.OK || bytes != modelPack(m) {
			t.Errorf("Pack of what was printed and read: %d, %d, %s", e, f, show(bytes))
		}
		back, e, _ := pack.Unpack(bytes)
		again, f := asm.Print(back)
		if e != api.OK || f != api.OK || again != text || !sameModule(back, m) || !sameModule(read, m) {
			t.Errorf("Print of what was packed and read: %d, %d, %q", e, f, again)
		}
	}
	for _, r := range instrs() {
		text, e := asm.Print(plain(r.i))
		m, f, _ := asm.Parse(text)
		if e != api.OK || f != api.OK {
			t.Errorf("Print and Parse: %d, %d", e, f)
		}
		wantModule(t, m, sealed(plainBytes(1, r.s)))
	}
}

// Calls end, and none panics, whatever they are given.
func TestR1WildArguments(t *testing.T) {
	wild := []int{least, least + 1, -1 << 32, -2, -1, 0, 1, 5, 6, 9, 27, 33, 46, 47, 1 << 32, 1 << 62, most}
	strange := []api.Term{{}, {Kind: api.KindComplex, C: complex(math.NaN(), math.Inf(1))}, {Kind: -1}, endlessTerm(), {Kind: api.KindAtom, S: "\xff"}, {Kind: most, N: least}}
	for _, n := range wild {
		for _, x := range strange {
			wantRefusedTerm(t, tuple(null(), x), refusedTerm(x))
			for _, p := range []api.Pattern{{}, endlessPattern(), {Kind: n, N: n, Term: x}} {
				i := api.Instr{Op: n, A: n, B: n, Term: x, Arms: []api.Arm{arm(p, n)}}
				wantPack(t, plain(i), "", api.ErrCode)
				wantPack(t, mod(fun("f", n, n, i), fun("f", n, n)), "", api.ErrModule)
				wantPack(t, api.Module{Name: x.S, Funcs: make([]api.Func, 70)}, "", api.ErrModule)
			}
		}
	}
	x := numbers(7)
	for range 20000 {
		b := make([]byte, x.below(40))
		for k := range b {
			b[k] = byte(x.below([]int{256, 12, 3}[x.below(3)]))
		}
		held(t, string(b))
		held(t, "CRM1"+string(b))
		held(t, sealed(plainBytes(1, string(b))))
		heldTerm(t, string(b))
		wantBounded(t, string(b))
	}
}

// refusedTerm is what layer 3 refuses of a term of TestR1WildArguments.
func refusedTerm(x api.Term) api.Errno {
	if len(x.L) > 0 {
		return api.ErrParts
	}
	return api.ErrTerm
}

// spoil writes over a list, and over its spare room: of an answer nobody else is to see that.
func spoil[T any](l []T) { clear(l[:cap(l)]) }

const shared = "CRM1\x01m\x02\x01f\x00\x01\x03\x21\x00\x01\x03\x05\x01\x03\x05\x01a\x02\x05\x01\x03\x05\x01a\x02\x06\x01\x01\x01\x01\x02\x01\x09\x02\x09\x01\x01\x09\x01\x01\x21\x00\x01\x00\x01g\x00\x00\x01\x21\x00\x01\x00"

// What is answered is new: lists of two answers, and two lists of one, share nothing.
func TestR3NewMemory(t *testing.T) {
	s := sealed(shared)
	want, e, _ := pack.Unpack(s)
	if e != api.OK {
		t.Fatal(e)
	}
	spoils := []func(m api.Module) func(){
		func(m api.Module) func() { return func() { spoil(m.Funcs) } },
		func(m api.Module) func() { return func() { spoil(m.Funcs[0].Code) } },
		func(m api.Module) func() { return func() { spoil(m.Funcs[1].Code) } },
		func(m api.Module) func() { return func() { spoil(m.Funcs[0].Code[0].Arms) } },
		func(m api.Module) func() { return func() { spoil(m.Funcs[0].Code[0].Arms[0].Pattern.L) } },
		func(m api.Module) func() { return func() { spoil(m.Funcs[0].Code[0].Arms[2].Pattern.L) } },
		func(m api.Module) func() { return func() { spoil(m.Funcs[0].Code[0].Arms[2].Pattern.Rest) } },
		func(m api.Module) func() { return func() { spoil(m.Funcs[0].Code[1].Term.L) } },
		func(m api.Module) func() { return func() { spoil(m.Funcs[0].Code[1].Term.L[0].L) } },
	}
	for _, do := range spoils {
		m, _, _ := pack.Unpack(s)
		do(m)()
		wantPack(t, want, s, api.OK)
	}
	m, _, _ := pack.Unpack(s)
	arms := m.Funcs[0].Code[0].Arms
	spoil(arms[0].Pattern.L)
	if len(arms[1].Pattern.L) != 1 || arms[1].Pattern.L[0].Term.S != "a" || len(m.Funcs[0].Code[1].Term.L) != 2 {
		t.Error("two lists of one answer share their memory:", m)
	}
	spoil(m.Funcs[0].Code)
	if len(m.Funcs[1].Code) != 1 || m.Funcs[1].Code[0].Op != api.OpRecv {
		t.Error("two lists of one answer share their memory:", m)
	}
	x, _, _ := pack.TermOf("\x09\x02\x09\x02\x01\x01\x09\x02\x01\x01")
	spoil(x.L[0].L)
	if len(x.L) != 2 || len(x.L[1].L) != 2 || x.L[1].L[0].Kind != api.KindNil {
		t.Error("two lists of one answer share their memory:", x)
	}
}

// within tells whether a text stands in another one's memory.
func within(s, whole string) bool {
	a, b := uintptr(unsafe.Pointer(unsafe.StringData(s))), uintptr(unsafe.Pointer(unsafe.StringData(whole)))
	return len(s) > 0 && a >= b && a < b+uintptr(len(whole))
}

// A name that is read is no piece of the bytes that were handed in.
func TestR3Names(t *testing.T) {
	s := sealed(shared)
	m, _, _ := pack.Unpack(s)
	x, _, _ := pack.TermOf("\x05\x01a" + s)
	for _, name := range []string{m.Name, m.Funcs[0].Name, m.Funcs[1].Name, m.Funcs[0].Code[0].Arms[0].Pattern.L[0].Term.S} {
		if name == "" || within(name, s) {
			t.Error("a name that is kept of what was handed in:", name)
		}
	}
	bytes := "\x08\x01\x05\x40" + strings.Repeat("q", 64)
	x, _, _ = pack.TermOf(bytes)
	if len(x.L) != 1 || within(x.L[0].S, bytes) {
		t.Error("a name that is kept of what was handed in:", x)
	}
}

// What is handed in is not changed, and what lies behind a list's end is none of it.
func TestR3HandedIn(t *testing.T) {
	patterns := []api.Pattern{whatever(), local(99)}
	room := []api.Instr{recv(1, 5, []api.Arm{arm(tup(patterns[:1]...), 1), arm(whatever(), -9)}[:1]...), push(list([]api.Term{null(), {Kind: 99}}[:1]...)), ret(), op(99)}
	funcs := []api.Func{fun("f", 0, 0, room[:3]...), fun("f", -1, 0)}
	m := api.Module{Name: "m", Funcs: funcs[:1]}
	s := sealed("CRM1\x01m\x01\x01f\x00\x00\x03" + by(33, 1, 10, 1, 5, 1, 1, 1) + by(1, 9, 1, 1) + by(29))
	for range 2 {
		wantModule(t, m, s)
	}
	if patterns[1].N != 99 || room[3].Op != 99 || funcs[1].Params != -1 || room[0].Arms[:2][1].To != -9 || room[1].Term.L[:2][1].Kind != 99 || len(room[0].Arms) != 1 || room[1].Term.L[0].Kind != api.KindNil {
		t.Error("what was handed in is changed:", room, funcs)
	}
}

// nil and the empty list are the same.
func TestR3EmptyLists(t *testing.T) {
	empty := api.Module{Name: "m", Funcs: []api.Func{fun("f", 0, 0, api.Instr{Op: api.OpRecv, B: -1, Term: api.Term{L: []api.Term{}}, Arms: []api.Arm{}}, api.Instr{Op: api.OpPush, Term: api.Term{Kind: api.KindNil, L: []api.Term{}}, Arms: []api.Arm{}},
		match(0, arm(api.Pattern{Kind: api.PatList, L: []api.Pattern{}, Rest: []api.Pattern{}}, 0)))}}
	wantModule(t, empty, sealed("CRM1\x01m\x01\x01f\x00\x00\x03"+by(33, 0, 1, 0, 1, 1, 27, 0, 1, 6, 0, 0, 0)))
	wantTerm(t, api.Term{Kind: api.KindList, L: []api.Term{}}, by(9, 0))
	wantTerm(t, api.Term{Kind: api.KindNil, L: []api.Term{}}, by(1))
}

// What is asked once changes nothing of what is told later.
func TestR4AskedAgain(t *testing.T) {
	for range 3 {
		wantModule(t, plain(ret()), sealed(plainBytes(1, "\x1d")))
		wantWrong(t, "CRM1", 4)
		wantNone(t, sealed("CRM1\x01m\x00"), api.ErrModule, 0)
		wantNone(t, plainBytes(1, "\x1d")+"\x00\x00\x00\x00", api.ErrSum, 17)
		wantPack(t, api.Module{}, "", api.ErrModule)
		wantTerm(t, in(-3), "\x03\x05")
		wantNoTerm(t, "\x03", api.ErrPack)
		wantRefusedTerm(t, api.Term{}, api.ErrTerm)
		wantSum(t, "a", 6422626)
	}
}
