package pack_test

import (
	"encoding/binary"
	"hash/adler32"
	"math"
	"reflect"
	"slices"
	"strconv"
	"strings"
	"testing"

	"carousel/api"
	"carousel/pack"
)

const (
	least = -1 << 63
	most  = 1<<63 - 1
)

// by are bytes one by one.
func by(l ...byte) string { return string(l) }

// c are counts, one behind the other.
func c(l ...int) string {
	var b []byte
	for _, n := range l {
		b = binary.AppendUvarint(b, uint64(n))
	}
	return string(b)
}

// num is a number.
func num(n int) string { return string(binary.AppendVarint(nil, int64(n))) }

// name is the count of a text's bytes, and they.
func name(s string) string { return c(len(s)) + s }

// sealed is what stands ahead of a sum, and that.
func sealed(s string) string {
	return s + string(binary.LittleEndian.AppendUint32(nil, adler32.Checksum([]byte(s))))
}

func null() api.Term { return api.Term{Kind: api.KindNil} }

func in(n int) api.Term { return api.Term{Kind: api.KindInt, N: n} }

func boolean(n int) api.Term { return api.Term{Kind: api.KindBool, N: n} }

func ref(n int) api.Term { return api.Term{Kind: api.KindRef, N: n} }

func comp(re, im float64) api.Term { return api.Term{Kind: api.KindComplex, C: complex(re, im)} }

func atom(s string) api.Term { return api.Term{Kind: api.KindAtom, S: s} }

func pid(n, gen int) api.Term { return api.Term{Kind: api.KindPid, P: api.Pid{N: n, Gen: gen}} }

func tuple(l ...api.Term) api.Term { return api.Term{Kind: api.KindTuple, L: l} }

func list(l ...api.Term) api.Term { return api.Term{Kind: api.KindList, L: l} }

// endlessTerm is a list that holds itself.
func endlessTerm() api.Term {
	l := make([]api.Term, 1)
	l[0] = list(l...)
	return l[0]
}

// deepTerm is a term within so many lists and tuples.
func deepTerm(within int) api.Term {
	t := in(0)
	for k := range within {
		t = api.Term{Kind: api.KindTuple + k%2, L: []api.Term{t}}
	}
	return t
}

// nulls is a list of so many.
func nulls(n int) api.Term { return list(slices.Repeat([]api.Term{null()}, n)...) }

func whatever() api.Pattern { return api.Pattern{Kind: api.PatAny} }

func local(n int) api.Pattern { return api.Pattern{Kind: api.PatVar, N: n} }

func just(t api.Term) api.Pattern { return api.Pattern{Kind: api.PatTerm, Term: t} }

func ofKind(n int) api.Pattern { return api.Pattern{Kind: api.PatKind, N: n} }

func tup(l ...api.Pattern) api.Pattern { return api.Pattern{Kind: api.PatTuple, L: l} }

func lst(l ...api.Pattern) api.Pattern { return api.Pattern{Kind: api.PatList, L: l} }

// rest is a list's pattern with one for what is left.
func rest(p api.Pattern, l ...api.Pattern) api.Pattern {
	return api.Pattern{Kind: api.PatList, L: l, Rest: []api.Pattern{p}}
}

func endlessPattern() api.Pattern {
	l := make([]api.Pattern, 1)
	l[0] = tup(l...)
	return l[0]
}

// deepPattern is a pattern within so many tuples, lists and lists' rests.
func deepPattern(p api.Pattern, within int) api.Pattern {
	for k := range within {
		p = []api.Pattern{tup(p), lst(p), rest(p), rest(p, whatever())}[k%4]
	}
	return p
}

func arm(p api.Pattern, to int) api.Arm { return api.Arm{Pattern: p, To: to} }

// arms lead to some places, whatever comes.
func arms(to ...int) []api.Arm {
	var l []api.Arm
	for _, n := range to {
		l = append(l, arm(whatever(), n))
	}
	return l
}

func op(n int) api.Instr { return api.Instr{Op: n} }

func opA(n, a int) api.Instr { return api.Instr{Op: n, A: a} }

func push(t api.Term) api.Instr { return api.Instr{Op: api.OpPush, Term: t} }

func ret() api.Instr { return op(api.OpRet) }

func match(a int, l ...api.Arm) api.Instr { return api.Instr{Op: api.OpMatch, A: a, Arms: l} }

func recv(a, b int, l ...api.Arm) api.Instr { return api.Instr{Op: api.OpRecv, A: a, B: b, Arms: l} }

func spawn(a, b int) api.Instr { return api.Instr{Op: api.OpSpawn, A: a, B: b} }

// stop leads nowhere and takes nothing: what stands behind it is never come to.
func stop() api.Instr { return recv(0, -1) }

func fun(name string, params, locals int, l ...api.Instr) api.Func {
	return api.Func{Name: name, Params: params, Locals: locals, Code: l}
}

func mod(l ...api.Func) api.Module { return api.Module{Name: "m", Funcs: l} }

// plain is a module of one function, in which anything that may be may stand behind the first place.
func plain(l ...api.Instr) api.Module {
	return mod(fun("f", 0, 32, append([]api.Instr{stop()}, l...)...))
}

// plainBytes are those of plain up to its sum, for some instructions.
func plainBytes(n int, code string) string {
	return "CRM1" + name("m") + c(1) + name("f") + c(0, 32) + c(1+n) + by(33, 0, 1, 0) + code
}

// sameTerm tells whether two terms are the same in all fields; nil is the empty list.
func sameTerm(a, b api.Term) bool {
	bit := math.Float64bits
	return a.Kind == b.Kind && a.N == b.N && a.S == b.S && a.P == b.P && bit(real(a.C)) == bit(real(b.C)) && bit(imag(a.C)) == bit(imag(b.C)) && slices.EqualFunc(a.L, b.L, sameTerm)
}

func samePattern(a, b api.Pattern) bool {
	return a.Kind == b.Kind && a.N == b.N && sameTerm(a.Term, b.Term) && slices.EqualFunc(a.L, b.L, samePattern) && slices.EqualFunc(a.Rest, b.Rest, samePattern)
}

func sameArm(a, b api.Arm) bool { return a.To == b.To && samePattern(a.Pattern, b.Pattern) }

func sameInstr(a, b api.Instr) bool {
	return a.Op == b.Op && a.A == b.A && a.B == b.B && sameTerm(a.Term, b.Term) && slices.EqualFunc(a.Arms, b.Arms, sameArm)
}

func sameFunc(a, b api.Func) bool {
	return a.Name == b.Name && a.Params == b.Params && a.Locals == b.Locals && slices.EqualFunc(a.Code, b.Code, sameInstr)
}

func sameModule(a, b api.Module) bool {
	return a.Name == b.Name && slices.EqualFunc(a.Funcs, b.Funcs, sameFunc)
}

// show are bytes as they are told of a failure.
func show(s string) string {
	var l []string
	for k := range min(len(s), 60) {
		l = append(l, strconv.Itoa(int(s[k])))
	}
	if len(s) > 60 {
		l = append(l, ".. "+strconv.Itoa(len(s))+" bytes")
	}
	return strings.Join(l, " ")
}

// wantTerm asks for a term's bytes, and for it back, whatever stands behind them.
func wantTerm(t *testing.T, x api.Term, want string) {
	t.Helper()
	if s, e := pack.Term(x); s != want || e != api.OK {
		t.Errorf("Term of kind %d: %s, %d, not %s", x.Kind, show(s), e, show(want))
	}
	for _, behind := range []string{"", "\x00", "\x01", "\x80", "\xff", "CRM1", want, strings.Repeat("\xff", 100)} {
		wantTermOf(t, want+behind, x, len(want))
	}
}

func wantTermOf(t *testing.T, s string, x api.Term, place int) {
	t.Helper()
	if y, at, e := pack.TermOf(s); !sameTerm(x, y) || at != place || e != api.OK {
		t.Errorf("TermOf(%s): kind %d, %d, %d, not kind %d, %d", show(s), y.Kind, at, e, x.Kind, place)
	}
}

// wantNoTerm asks of bytes that are refused: nothing else is told but why.
func wantNoTerm(t *testing.T, s string, want api.Errno) {
	t.Helper()
	if x, at, e := pack.TermOf(s); !reflect.DeepEqual(x, api.Term{}) || at != 0 || e != want {
		t.Errorf("TermOf(%s): kind %d, %d, %d, not %d", show(s), x.Kind, at, e, want)
	}
}

// wantRefusedTerm asks of a term that may not be.
func wantRefusedTerm(t *testing.T, x api.Term, want api.Errno) {
	t.Helper()
	if s, e := pack.Term(x); s != "" || e != want {
		t.Errorf("Term of kind %d: %s, %d, not %d", x.Kind, show(s), e, want)
	}
}

func wantPack(t *testing.T, m api.Module, want string, f api.Errno) {
	t.Helper()
	if s, e := pack.Pack(m); s != want || e != f {
		t.Errorf("Pack of a module of %d functions: %s, %d, not %s, %d", len(m.Funcs), show(s), e, show(want), f)
	}
}

func wantUnpack(t *testing.T, s string, want api.Module) {
	t.Helper()
	if m, e, at := pack.Unpack(s); !sameModule(m, want) || e != api.OK || at != 0 {
		t.Errorf("Unpack(%s): %q with %d functions, %d, %d, not %q with %d", show(s), m.Name, len(m.Funcs), e, at, want.Name, len(want.Funcs))
	}
}

// wantModule asks for a module's bytes, and for it back.
func wantModule(t *testing.T, m api.Module, want string) {
	t.Helper()
	wantPack(t, m, want, api.OK)
	wantUnpack(t, want, m)
}

// wantNone asks of bytes that are refused: nothing else is told but why, and where.
func wantNone(t *testing.T, s string, f api.Errno, place int) {
	t.Helper()
	if m, e, at := pack.Unpack(s); !reflect.DeepEqual(m, api.Module{}) || e != f || at != place {
		t.Errorf("Unpack(%s): %q with %d functions, %d, %d, not %d, %d", show(s), m.Name, len(m.Funcs), e, at, f, place)
	}
}

// wantWrong asks for the place of what can not be read.
func wantWrong(t *testing.T, s string, place int) {
	t.Helper()
	wantNone(t, s, api.ErrPack, place)
}
