package asm_test

import (
	"math"
	"slices"
	"strconv"
	"strings"
	"testing"

	"carousel/api"
	"carousel/asm"
	"carousel/code"
)

// numbers are told one by one by a rule that is the same each time.
type numbers uint64

// below is a number from 0 on and below n.
func (x *numbers) below(n int) int {
	*x = *x*6364136223846793005 + 1442695040888963407
	return int(uint64(*x)>>33) % n
}

func (x *numbers) term(deep int) api.Term {
	n := 9
	if deep == 0 {
		n = 7
	}
	switch kind := 1 + x.below(n); kind {
	case api.KindBool:
		return api.Term{Kind: kind, N: x.below(2)}
	case api.KindInt:
		return in([]int{0, -1, 7, api.MaxInt, api.MinInt, x.below(1000) - 500}[x.below(6)])
	case api.KindComplex:
		return api.Term{Kind: kind, C: complex(float64(x.below(9)-4), float64(x.below(2001)-1000))}
	case api.KindAtom:
		return atom([]string{"a", "push", "func", "module", "z_Z9", strings.Repeat("q", 64)}[x.below(6)])
	case api.KindPid:
		return api.Term{Kind: kind, P: api.Pid{N: x.below(256), Gen: 1 + x.below(9)}}
	case api.KindRef:
		return api.Term{Kind: kind, N: 1 + x.below(99)}
	case api.KindTuple, api.KindList:
		t := api.Term{Kind: kind}
		for range x.below(4) {
			t.L = append(t.L, x.term(deep-1))
		}
		return t
	}
	return api.Term{Kind: api.KindNil}
}

// pattern is one with locals from some number on, none twice.
func (x *numbers) pattern(deep int, next *int) api.Pattern {
	n := 6
	if deep == 0 {
		n = 4
	}
	switch x.below(n) {
	case 0:
		*next++
		if *next <= 32 {
			return local(*next - 1)
		}
	case 1:
		if t := x.term(0); t.Kind < api.KindTuple {
			return just(t)
		}
	case 2:
		return api.Pattern{Kind: api.PatKind, N: 1 + x.below(9)}
	case 4, 5:
		p := tup()
		for range x.below(4) {
			p.L = append(p.L, x.pattern(deep-1, next))
		}
		if x.below(2) == 0 {
			p.Kind = api.PatList
			if x.below(2) == 0 {
				p.Rest = append(p.Rest, x.pattern(deep-1, next))
			}
		}
		return p
	}
	return whatever()
}

// instr is one that may be by itself.
func (x *numbers) instr() api.Instr {
	i := op(1 + x.below(46))
	number := func() int { return []int{-1, 0, ticks, x.below(10), x.below(ticks)}[x.below(5)] }
	for _, field := range has(i.Op) {
		switch field {
		case 'T':
			i.Term = x.term(4)
		case 'A':
			i.A = number()
		case 'B':
			i.B = number()
		case 'R':
			for range x.below(5) + 28*x.below(2)*x.below(2) {
				next := x.below(5)
				i.Arms = append(i.Arms, arm(x.pattern(4, &next), number()))
			}
		}
	}
	if i.Op == api.OpKind {
		i.A = 1 + x.below(9)
	}
	return i
}

func TestAs4ThereAndBackInstructions(t *testing.T) {
	x := numbers(1)
	for range 20000 {
		i := x.instr()
		want := modelText(i)
		wantInstr(t, i, want)
	}
}

// blanks puts more blanks, or other ones, where blanks stand.
func (x *numbers) blanks(s string) string {
	var b strings.Builder
	for k := range len(s) {
		if s[k] != ' ' {
			b.WriteByte(s[k])
			continue
		}
		for range 1 + x.below(3) {
			b.WriteByte(" \t\r"[x.below(3)])
		}
	}
	return b.String()
}

// dressed is a module's text with remarks, blanks and empty lines.
func (x *numbers) dressed(s string) string {
	var b strings.Builder
	for line := range strings.Lines(s) {
		for range x.below(3) {
			b.WriteString([]string{"\n", " \n", "; remark\n", "\t;\n", " ; func f 0 0\n"}[x.below(5)])
		}
		b.WriteString(x.blanks(strings.Repeat(" ", x.below(3)) + strings.TrimSpace(line) + strings.Repeat(" ", x.below(3))))
		b.WriteString([]string{"\n", " \n", "; remark\n", " ; ? _ -> 0\n"}[x.below(4)])
	}
	return b.String()
}

// module is one that may be run: what is drawn for it stands where it is never come to.
func (x *numbers) module() api.Module {
	m := api.Module{Name: "m" + strconv.Itoa(x.below(100))}
	places := 20
	for fn := range 1 + x.below(4) {
		f := fun("f"+strconv.Itoa(fn), x.below(3), 32, stop())
		for len(f.Code) < places {
			i := x.instr()
			one := mod(fun("f", 0, 32, append(repeat(places-1, stop()), i)...))
			if e, _, _ := code.Check(one); e == api.OK {
				f.Code = append(f.Code, i)
			}
		}
		m.Funcs = append(m.Funcs, f)
	}
	return m
}

func TestAs4ThereAndBackModules(t *testing.T) {
	x := numbers(2)
	for range 300 {
		m := x.module()
		if e, fn, at := code.Check(m); e != api.OK {
			t.Fatal("a module that may not be run:", e, fn, at)
		}
		want := modelPrint(m)
		wantModule(t, m, want)
		for range 3 {
			wantParse(t, x.dressed(want), m)
		}
	}
}

// What is read, and can be printed, is printed as a text that is read as the same; and that is the shortest of all such texts, but for blanks about signs.
func TestAs4PrintOfParse(t *testing.T) {
	x := numbers(3)
	for range 300 {
		s := x.dressed(modelPrint(x.module()))
		m, e, _ := asm.Parse(s)
		if e != api.OK {
			t.Fatalf("Parse(%q): %d", s, e)
		}
		again, e := asm.Print(m)
		if e != api.OK || strings.ContainsAny(again, ";\t\r") || strings.Contains(again, "\n\n") {
			t.Errorf("Print: %q, %d", again, e)
		}
		wantParse(t, again, m)
		wantPrint(t, m, again, api.OK)
	}
}

// A text that is short for its module can be read, and not printed.
func TestAs4ReadButNotPrinted(t *testing.T) {
	var b strings.Builder
	b.WriteString("module m\nfunc f 0 0\nrecv 0 -1\n")
	for k := 1; b.Len() < api.MaxText-1100; k++ {
		if k == 240 {
			b.WriteString("func g 0 0\nrecv 0 -1\n")
		}
		b.WriteString("push[" + strings.Repeat("0,", 500) + "0]\n")
	}
	s := strings.ReplaceAll(b.String(), "push[", "push [")
	m, e, at := asm.Parse(s)
	if e != api.OK || len(m.Funcs) != 2 {
		t.Fatal(e, at)
	}
	wantPrint(t, m, "", api.ErrLong)
	m.Funcs = m.Funcs[:1]
	m.Funcs[0].Code = m.Funcs[0].Code[:100]
	wantModule(t, m, modelPrint(m))
}

// Calls end, and none panics, whatever they are given.
func TestR1WildArguments(t *testing.T) {
	terms := []api.Term{{}, {Kind: api.KindComplex, C: complex(math.NaN(), math.Inf(1))}, {Kind: -1}, endlessTerm(), {Kind: api.KindAtom, S: "\xff"}, {Kind: most, N: least}}
	for _, n := range append(wild(), -2, -1, 0, 1, 27, 33, 46, 47) {
		for _, x := range terms {
			for _, p := range []api.Pattern{{}, endlessPattern(), {Kind: n, N: n, Term: x}} {
				i := api.Instr{Op: n, A: n, B: n, Term: x, Arms: []api.Arm{arm(p, n)}}
				wantNoInstr(t, i)
				wantPrint(t, mod(fun("f", 0, 0, i)), "", api.ErrCode)
				wantPrint(t, mod(fun("f", n, n, i), fun("f", n, n)), "", api.ErrModule)
			}
		}
	}
	for b := range 256 {
		for _, s := range []string{string([]byte{byte(b)}), string([]byte{'?', byte(b)}), "module " + string([]byte{byte(b)}), "push " + string([]byte{byte(b), byte(b)}), "match 0 ?" + string([]byte{byte(b)}) + "->"} {
			heldInstr(t, s)
			held(t, s)
			held(t, "module m\nfunc f 0 0\n"+s)
		}
	}
}

// What is handed in is not changed, what lies behind a list's end is none of it, and what is answered is new.
func TestR3NewMemory(t *testing.T) {
	room := []api.Instr{ret1(), recv(2, 5, arms(2, -9)[:1]...), ret(), op(99)}
	funcs := []api.Func{fun("f", 0, 0, room[:3]...), fun("f", -1, 0)}
	m := api.Module{Name: "m", Funcs: funcs[:1]}
	s := "module m\nfunc f 0 0\n  push 1\n  recv 2 5 ? _ -> 2\n  ret\n"
	wantPrint(t, m, s, api.OK)
	wantInstr(t, api.Instr{Op: api.OpMatch, Arms: room[1].Arms}, "match 0 ? _ -> 2")
	if room[3].Op != 99 || funcs[1].Params != -1 || room[1].Arms[:2][1].To != -9 || room[1].Arms[0].To != 2 || room[0].Term.N != 1 || len(room[1].Arms) != 1 {
		t.Error("what was handed in is changed:", room, funcs)
	}
	a, _, _ := asm.Parse(s)
	b, _, _ := asm.Parse(s)
	spoil(a.Funcs[0].Code[1].Arms)
	spoil(a.Funcs[0].Code)
	spoil(a.Funcs)
	if !sameModule(b, m) {
		t.Error("two answers share their memory:", b)
	}
	i, _ := asm.InstrOf("recv 0 -1 ? [a] -> 1 ? [a] -> 2")
	j, _ := asm.InstrOf("recv 0 -1 ? [a] -> 1 ? [a] -> 2")
	spoil(i.Arms[0].Pattern.L)
	if i.Arms[1].Pattern.L[0].Term.S != "a" || j.Arms[0].Pattern.L[0].Term.S != "a" {
		t.Error("two lists of one answer share their memory, or two answers do:", i, j)
	}
	spoil(i.Arms)
	if j.Arms[1].To != 2 {
		t.Error("two answers share their memory:", j)
	}
}

// spoil writes over a list, and over its spare room: of an answer nobody else is to see that.
func spoil[T any](l []T) { clear(l[:cap(l)]) }

// What is asked once changes nothing of what is told later.
func TestR4AskedAgain(t *testing.T) {
	for range 3 {
		wantModule(t, echoModule(), echo)
		wantWrong(t, "module m\nret\n", 9)
		wantNone(t, "module m", api.ErrModule, 0)
		wantPrint(t, api.Module{}, "", api.ErrModule)
		wantInstr(t, recv(0, -1, arms(1, 2)...), "recv 0 -1 ? _ -> 1 ? _ -> 2")
		wantNoInstr(t, api.Instr{})
		wantUnread(t, "recv 0")
	}
	m, _, _ := asm.Parse(echo)
	l := slices.Clone(m.Funcs[0].Code)
	wantPrint(t, m, echo, api.OK)
	if !slices.EqualFunc(l, m.Funcs[0].Code, same) {
		t.Error("Print changes what it prints:", m)
	}
}
