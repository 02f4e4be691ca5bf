package asm_test

import (
	"strconv"
	"strings"
	"testing"

	"carousel/api"
	"carousel/asm"
)

// sample is an instruction that may be by itself, and its text.
type sample struct {
	i api.Instr
	s string
}

// plain are the operations that have nothing but their names.
func plain() string {
	return "pop add sub mul div rem neg conj turn eq less not elem size cons head tail ret self now send timer cancel link unlink monitor demon trap name where out exit yield"
}

// withA are those with A alone.
func withA() string { return "dup load store tuple list jump if call" }

// all are all operations' names, in the order of their numbers.
func all() []string {
	return strings.Fields("push pop dup load store add sub mul div rem neg conj turn eq less not kind tuple list elem size cons head tail jump if match call ret self now send recv spawn timer cancel link unlink monitor demon trap name where out exit yield")
}

func opOf(name string) int {
	for k, s := range all() {
		if s == name {
			return k + 1
		}
	}
	return 0
}

// edges are numbers that may just stand in an instruction.
func edges() []int { return []int{-1, 0, 1, 9, 254, ticks - 1, ticks} }

// beyond are numbers that may not.
func beyond() []int { return append(wild(), -3, -2, ticks+1, ticks+2, 1<<21) }

func samples() []sample {
	l := []sample{
		{push(api.Term{Kind: api.KindNil}), "push nil"}, {push(api.Term{Kind: api.KindBool, N: 1}), "push true"}, {push(in(0)), "push 0"}, {push(in(api.MinInt)), "push -4611686018427387903"}, {push(api.Term{Kind: api.KindComplex, C: 3 - 2i}), "push 3-2i"}, {push(atom("push")), "push push"},
		{push(api.Term{Kind: api.KindPid, P: api.Pid{N: 3, Gen: 1}}), "push <3.1>"}, {push(api.Term{Kind: api.KindRef, N: 7}), "push #7"}, {push(list(in(1), in(2))), "push [1, 2]"}, {push(tuple(atom("a"), tuple(), list())), "push {a, {}, []}"},
		{match(3, arm(just(in(-1)), 4), arm(tup(local(0), local(31)), -1)), "match 3 ? -1 -> 4 ? {$0, $31} -> -1"},
		{recv(0, -1, arm(tup(local(0), local(1)), 1), arm(whatever(), 0)), "recv 0 -1 ? {$0, $1} -> 1 ? _ -> 0"},
		{recv(7, 100, arm(api.Pattern{Kind: api.PatList, L: []api.Pattern{{Kind: api.PatKind, N: api.KindPid}}, Rest: []api.Pattern{whatever()}}, 12)), "recv 7 100 ? [:pid | _] -> 12"},
	}
	for _, name := range strings.Fields(plain()) {
		l = append(l, sample{op(opOf(name)), name})
	}
	for k, name := range []string{"nil", "bool", "int", "complex", "atom", "pid", "ref", "tuple", "list"} {
		l = append(l, sample{opA(api.OpKind, k+1), "kind " + name})
	}
	for _, n := range edges() {
		s := strconv.Itoa(n)
		for _, name := range strings.Fields(withA()) {
			l = append(l, sample{opA(opOf(name), n), name + " " + s})
		}
		l = append(l, sample{spawn(n, 0), "spawn " + s + " 0"}, sample{spawn(0, n), "spawn 0 " + s}, sample{recv(n, 0), "recv " + s + " 0"}, sample{recv(0, n), "recv 0 " + s}, sample{match(n), "match " + s})
		l = append(l, sample{match(0, arms(n)...), "match 0 ? _ -> " + s}, sample{match(n, arms(0, n, 5)...), "match " + s + " ? _ -> 0 ? _ -> " + s + " ? _ -> 5"}, sample{recv(n, n, arms(n)...), "recv " + s + " " + s + " ? _ -> " + s})
	}
	return l
}

func TestAs1Instr(t *testing.T) {
	seen := map[int]bool{}
	for _, x := range samples() {
		wantInstr(t, x.i, x.s)
		seen[x.i.Op] = true
	}
	if len(seen) != 46 || len(all()) != 46 {
		t.Error("operations of the samples:", len(seen), len(all()))
	}
}

func TestAs1NoOperation(t *testing.T) {
	for _, n := range append(wild(), -1, -2, 0, 47, 48, 92) {
		wantNoInstr(t, op(n))
		for _, x := range samples() {
			x.i.Op = n
			wantNoInstr(t, x.i)
		}
	}
	wantNoInstr(t, api.Instr{})
}

// has are the fields that an operation's text has: A, B, T (Term), R (Arms).
func has(n int) string {
	switch n {
	case api.OpPush:
		return "T"
	case api.OpDup, api.OpLoad, api.OpStore, api.OpKind, api.OpTuple, api.OpList, api.OpJump, api.OpIf, api.OpCall:
		return "A"
	case api.OpMatch:
		return "AR"
	case api.OpSpawn:
		return "AB"
	case api.OpRecv:
		return "ABR"
	}
	return ""
}

// Each field that an operation's text has not is zero.
func TestAs1FieldsThatATextHasNot(t *testing.T) {
	terms := []api.Term{{Kind: api.KindNil}, {Kind: -1}, {N: 1}, {N: -1}, {C: 1}, {C: 1i}, {S: "a"}, {S: "\x00"}, {P: api.Pid{N: 1}}, {P: api.Pid{Gen: 1}}, {L: []api.Term{{}}}, in(0), endlessTerm()}
	for _, x := range samples() {
		for _, n := range append(beyond(), -1, 1, 2, 9, ticks) {
			a, b := x.i, x.i
			a.A, b.B = n, n
			if !strings.Contains(has(x.i.Op), "A") {
				wantNoInstr(t, a)
			}
			if !strings.Contains(has(x.i.Op), "B") {
				wantNoInstr(t, b)
			}
		}
		for _, term := range terms {
			if i := x.i; !strings.Contains(has(i.Op), "T") {
				i.Term = term
				wantNoInstr(t, i)
			}
		}
		for _, l := range [][]api.Arm{make([]api.Arm, 1), arms(0), arms(0, 0), {arm(endlessPattern(), 0)}} {
			if i := x.i; !strings.Contains(has(i.Op), "R") {
				i.Arms = l
				wantNoInstr(t, i)
			}
		}
	}
}

// nil and the empty list are the same.
func TestAs1EmptyLists(t *testing.T) {
	for _, x := range samples() {
		if len(x.i.Arms) == 0 {
			x.i.Arms = []api.Arm{{To: -9}}[:0]
		}
		if x.i.Term.Kind == 0 {
			x.i.Term.L = []api.Term{}
		}
		wantInstr(t, x.i, x.s)
	}
}

func TestAs1Numbers(t *testing.T) {
	for _, n := range beyond() {
		s := strconv.Itoa(n)
		for _, name := range strings.Fields(withA()) {
			wantNoInstr(t, opA(opOf(name), n))
			wantUnread(t, name+" "+s)
		}
		for s, i := range map[string]api.Instr{"match " + s: match(n), "recv " + s + " 0": recv(n, 0), "recv 0 " + s: recv(0, n), "spawn " + s + " 0": spawn(n, 0), "spawn 0 " + s: spawn(0, n)} {
			wantNoInstr(t, i)
			wantUnread(t, s)
		}
		for k := range 3 {
			l := arms(0, 1, 2)
			l[k].To = n
			wantNoInstr(t, match(0, l...))
			wantNoInstr(t, recv(0, -1, l...))
			ways := []string{"? _ -> 0", " ? _ -> 1", "? _ -> 2"}
			ways[k] = " ? _ -> " + s
			wantUnread(t, "match 0 "+strings.Join(ways, ""))
			wantUnread(t, "recv 0 -1 "+strings.Join(ways, ""))
		}
	}
}

func TestAs1Kinds(t *testing.T) {
	for _, n := range append(wild(), -2, -1, 0, 10, 11) {
		wantNoInstr(t, opA(api.OpKind, n))
	}
	for _, s := range []string{"kind", "kind ", "kind 1", "kind 3", "kind Int", "kind any", "kind :int", "kind nils", "kind in", "kind int int", "kind int 0", "kind int,", "kind true", "kind -1"} {
		wantUnread(t, s)
	}
}

func TestAs1Terms(t *testing.T) {
	long := make([]api.Term, 1024)
	for k := range long {
		long[k] = in(0)
	}
	wantInstr(t, push(list(long[:1023]...)), "push ["+strings.Repeat("0, ", 1022)+"0]")
	wantInstr(t, push(deepTerm(63)), "push "+strings.Repeat("[", 63)+"0"+strings.Repeat("]", 63))
	wantInstr(t, push(atom(strings.Repeat("q", 64))), "push "+strings.Repeat("q", 64))
	for _, x := range []api.Term{{}, {Kind: 10}, in(api.MaxInt + 1), in(most), atom("nil"), atom(""), list(long...), deepTerm(64), deepTerm(1000), endlessTerm(), list(in(1), api.Term{}), {Kind: api.KindInt, S: "a"}, {Kind: api.KindRef}, {Kind: api.KindBool, N: 2}} {
		wantNoInstr(t, push(x))
	}
	for _, s := range []string{"push", "push ", "push\t", "push ,", "push 007", "push -0", "push +5", "push Ab", "push _", "push $0", "push :int", "push [1, 2", "push {a, }", "push a b", "push 1 2", "push [1] ]", "push 4611686018427387904", "push <1.0>", "push #0", "push [" + strings.Repeat("0, ", 1023) + "0]", "push " + strings.Repeat("[", 64) + "0" + strings.Repeat("]", 64), "push " + strings.Repeat("q", 65), "push ? _ -> 1", "push 1 ? _ -> 1", "push[1]", "push{}", "push-1", "push1", "push \x00", "push \xff"} {
		wantUnread(t, s)
	}
}

func TestAs1Arms(t *testing.T) {
	for _, n := range []int{0, 1, 31, 32} {
		l := arms(make([]int, n)...)
		wantInstr(t, match(5, l...), "match 5"+strings.Repeat(" ? _ -> 0", n))
		wantInstr(t, recv(5, 6, l...), "recv 5 6"+strings.Repeat(" ? _ -> 0", n))
	}
	for _, n := range []int{33, 34, 64, 1000} {
		l := arms(make([]int, n)...)
		wantNoInstr(t, match(5, l...))
		wantNoInstr(t, recv(5, 6, l...))
		wantUnread(t, "match 5"+strings.Repeat(" ? _ -> 0", n))
		wantUnread(t, "recv 5 6"+strings.Repeat(" ? _ -> 0", n))
	}
	wantInstr(t, match(0, arms(make([]int, 33)...)[:32]...), "match 0"+strings.Repeat(" ? _ -> 0", 32))
	wantInstr(t, match(0, arm(local(31), 1), arm(tup(local(31), local(0)), 2)), "match 0 ? $31 -> 1 ? {$31, $0} -> 2")
	wide := make([]api.Pattern, 1024)
	for k := range wide {
		wide[k] = whatever()
	}
	wantInstr(t, match(0, arm(tup(wide[:1023]...), 1), arm(deepPattern(63), 2)), "match 0 ? {"+strings.Repeat("_, ", 1022)+"_} -> 1 ? "+strings.Repeat("{", 63)+"_"+strings.Repeat("}", 63)+" -> 2")
	for _, p := range []api.Pattern{{}, {Kind: 7}, {Kind: api.PatAny, N: 1}, local(32), local(-1), local(most), tup(local(0), local(0)), tup(api.Pattern{}), just(list()), just(endlessTerm()), {Kind: api.PatList, Rest: []api.Pattern{whatever(), whatever()}}, {Kind: api.PatKind, N: 10}, tup(wide...), deepPattern(64), endlessPattern()} {
		for _, k := range []int{0, 1, 31} {
			l := arms(make([]int, 32)...)
			l[k].Pattern = p
			wantNoInstr(t, match(0, l...))
			wantNoInstr(t, recv(0, -1, l...))
		}
	}
	for _, p := range []string{"", " ", "$32", "$ 1", "{$0, $0}", "{a", "[| _ _]", ":foo", "007", "A", "? _", "-", "- ", "_ _", "{" + strings.Repeat("_, ", 1023) + "_}", strings.Repeat("{", 65) + strings.Repeat("}", 65), "\x00", "\xff"} {
		for _, s := range []string{"match 0 ? " + p + " -> 1", "match 0 ?" + p + "-> 1", "recv 0 0 ? _ -> 1 ? " + p + " -> 1", "recv 0 0 ? " + p + "->1 ? _ -> 1"} {
			wantUnread(t, s)
		}
	}
}

// A text of MaxText bytes is the longest one.
func TestAs1LongTexts(t *testing.T) {
	atoms := make([]api.Pattern, 1022)
	for k := range atoms {
		atoms[k] = just(atom(strings.Repeat("q", 64)))
	}
	// An arm of 5 + (64 + 2) * 1022 + 2 + 4 bytes, with its blanks.
	full, fullText := arm(tup(append(atoms, whatever())...), 0), " ? {"+strings.Repeat(strings.Repeat("q", 64)+", ", 1022)+"_} -> 0"
	long, s := recv(0, -1, full, full, full), "recv 0 -1"+strings.Repeat(fullText, 3)
	left := api.MaxText - len(s) - len(" ? {_} -> 0")
	var l []api.Pattern
	filled := ""
	for left > 130 {
		l = append(l, just(atom(strings.Repeat("r", 62))))
		filled += strings.Repeat("r", 62) + ", "
		left -= 64
	}
	for _, more := range []int{0, 1, 2} {
		n := left + more - 4
		last := strings.Repeat("s", n/2) + ", " + strings.Repeat("t", n-n/2) + ", "
		i := long
		i.Arms = append(long.Arms[:3:3], arm(tup(append(l[:len(l):len(l)], just(atom(strings.Repeat("s", n/2))), just(atom(strings.Repeat("t", n-n/2))), whatever())...), 0))
		want := s + " ? {" + filled + last + "_} -> 0"
		if len(want) != api.MaxText+more {
			t.Fatal("a text of", len(want))
		}
		if more == 0 {
			wantInstr(t, i, want)
			continue
		}
		wantLong(t, i, want)
	}
	// What may not be is told ahead of what is too long.
	wantLong(t, recv(0, -1, full, full, full, full), s+fullText)
	wantNoInstr(t, recv(0, -1, full, full, full, full, arm(local(32), 0)))
	wantNoInstr(t, recv(0, -2, full, full, full, full))
	wantLong(t, match(0, full, full, full, full, full, full, full, full), "match 0"+strings.Repeat(fullText, 8))
}

// wantLong asks of an instruction whose text is too long, and of the text.
func wantLong(t *testing.T, i api.Instr, text string) {
	t.Helper()
	if s, e := asm.Instr(i); s != "" || e != api.ErrLong {
		t.Errorf("Instr of %d bytes: %q, %d", len(text), short(s), e)
	}
	wantLongText(t, text)
}

func wantLongText(t *testing.T, s string) {
	t.Helper()
	if i, e := asm.InstrOf(s); !same(i, api.Instr{}) || e != api.ErrLong {
		t.Errorf("InstrOf of %d bytes: %s, %d", len(s), show(i), e)
	}
}

func TestAs1LongTextsRead(t *testing.T) {
	blanks := strings.Repeat(" ", api.MaxText)
	for s, i := range map[string]api.Instr{"ret": ret(), "push 1": push(in(1)), "recv 0 -1 ? _ -> 0": recv(0, -1, arms(0)...)} {
		for _, long := range []string{s + blanks[len(s):], blanks[len(s):] + s} {
			wantRead(t, long, i)
			wantLongText(t, long+" ")
			wantLongText(t, " "+long)
		}
	}
	wantUnread(t, blanks)
	wantUnread(t, strings.Repeat("?", api.MaxText))
	wantUnread(t, "push "+strings.Repeat("[", api.MaxText-5))
	wantUnread(t, "match 0 "+strings.Repeat("?_->1", (api.MaxText-8)/5))
	for _, s := range []string{blanks + " ", strings.Repeat("?", api.MaxText+1), blanks + "ret", "\n" + blanks, strings.Repeat("ret ", api.MaxText)} {
		wantLongText(t, s)
	}
}
