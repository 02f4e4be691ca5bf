package asm_test

import (
	"strconv"
	"strings"
	"testing"

	"carousel/api"
	"carousel/asm"
	"carousel/code"
)

const echo = `module echo
func main 0 2
  recv 0 -1 ? {$0, $1} -> 1 ? _ -> 0
  load 0
  load 1
  send
  pop
  jump 0
`

func echoModule() api.Module {
	return api.Module{Name: "echo", Funcs: []api.Func{fun("main", 0, 2, recv(0, -1, arm(tup(local(0), local(1)), 1), arm(whatever(), 0)), opA(api.OpLoad, 0), opA(api.OpLoad, 1), op(api.OpSend), op(api.OpPop), opA(api.OpJump, 0))}}
}

// module is one that may be run and its text: all operations stand in it, most where they are never come to.
type module struct {
	m api.Module
	s string
}

func modules() []module {
	f := fun("f", 2, 3, stop())
	s := "func f 2 3\n  recv 0 -1\n"
	for _, x := range samples() {
		m := mod(fun("f", 2, 32, append(repeat(13, stop()), x.i)...))
		if e, _, _ := code.Check(m); e == api.OK {
			f.Code, s = append(f.Code, x.i), s+"  "+x.s+"\n"
		}
	}
	f.Locals, s = 32, strings.Replace(s, "func f 2 3", "func f 2 32", 1)
	long := strings.Repeat("q", 64)
	return []module{
		{echoModule(), echo},
		{mod(fun("f", 0, 0, push(in(1)), ret())), "module m\nfunc f 0 0\n  push 1\n  ret\n"},
		{mod(fun("module", 0, 0, ret1(), ret()), fun("func", 0, 1, ret1(), ret()), fun("ret", 1, 1, stop())), "module m\nfunc module 0 0\n  push 1\n  ret\nfunc func 0 1\n  push 1\n  ret\nfunc ret 1 1\n  recv 0 -1\n"},
		{api.Module{Name: long, Funcs: []api.Func{fun(long, 32, 32, stop())}}, "module " + long + "\nfunc " + long + " 32 32\n  recv 0 -1\n"},
		{mod(f), "module m\n" + s},
	}
}

func ret1() api.Instr { return push(in(1)) }

func TestAs2PrintAndParse(t *testing.T) {
	for _, x := range modules() {
		if e, fn, at := code.Check(x.m); e != api.OK {
			t.Fatal("a sample that may not be run:", e, fn, at)
		}
		wantModule(t, x.m, x.s)
	}
	seen := map[int]bool{}
	l := modules()
	for _, i := range l[len(l)-1].m.Funcs[0].Code {
		seen[i.Op] = true
	}
	if len(seen) < 44 {
		t.Error("operations of the sample:", len(seen))
	}
}

// What is refused of a module by layer 6 is refused of its text.
func TestAs2AndAs3ModulesThatMayNotBeRun(t *testing.T) {
	good := fun("f", 0, 0, stop())
	for s, m := range map[string]api.Module{
		"module m\n":                                                         mod(),
		"module M\nfunc f 0 0\n  recv 0 -1\n":                                {Name: "M", Funcs: []api.Func{good}},
		"module nil\nfunc f 0 0\n  recv 0 -1\n":                              {Name: "nil", Funcs: []api.Func{good}},
		"module 7\nfunc f 0 0\n  recv 0 -1\n":                                {Name: "7", Funcs: []api.Func{good}},
		"module m?->\x00\xff\nfunc f 0 0\n  recv 0 -1\n":                     {Name: "m?->\x00\xff", Funcs: []api.Func{good}},
		"module m\nfunc F 0 0\n  recv 0 -1\n":                                mod(fun("F", 0, 0, stop())),
		"module m\nfunc f, 0 0\n  recv 0 -1\n":                               mod(fun("f,", 0, 0, stop())),
		"module m\nfunc true 0 0\n  recv 0 -1\n":                             mod(fun("true", 0, 0, stop())),
		"module m\nfunc f 0 0\n  recv 0 -1\nfunc f 0 0\n  recv 0 -1\n":       mod(good, good),
		"module m\nfunc f -1 0\n  recv 0 -1\n":                               mod(fun("f", -1, 0, stop())),
		"module m\nfunc f 1 0\n  recv 0 -1\n":                                mod(fun("f", 1, 0, stop())),
		"module m\nfunc f 0 33\n  recv 0 -1\n":                               mod(fun("f", 0, 33, stop())),
		"module m\nfunc f -4611686018427387903 4611686018427387903\n  ret\n": mod(fun("f", api.MinInt, api.MaxInt, ret())),
		"module m\nfunc f 0 0\n":                                             mod(fun("f", 0, 0)),
		"module m\nfunc f 0 0\n  recv 0 -1\nfunc g 0 0\n":                    mod(good, fun("g", 0, 0)),
		"module m\nfunc f 0 0\n  load 0\n  ret\n":                            mod(fun("f", 0, 0, opA(api.OpLoad, 0), ret())),
		"module m\nfunc f 0 0\n  dup -1\n  ret\n":                            mod(fun("f", 0, 0, opA(api.OpDup, -1), ret())),
		"module m\nfunc f 0 0\n  recv 1 -1\n":                                mod(fun("f", 0, 0, recv(1, -1))),
		"module m\nfunc f 0 0\n  match 0 ? $0 -> 0\n":                        mod(fun("f", 0, 0, match(0, arm(local(0), 0)))),
		"module m\nfunc f 0 0\n  call 1\n  ret\n":                            mod(fun("f", 0, 0, opA(api.OpCall, 1), ret())),
		"module m\nfunc f 0 0\n  jump 1\n":                                   mod(fun("f", 0, 0, opA(api.OpJump, 1))),
		"module m\nfunc f 0 0\n  recv 0 -1 ? _ -> -1\n":                      mod(fun("f", 0, 0, recv(0, -1, arms(-1)...))),
		"module m\nfunc f 0 0\n  pop\n  recv 0 -1\n":                         mod(fun("f", 0, 0, op(api.OpPop), stop())),
		"module m\nfunc f 0 0\n  push 1\n":                                   mod(fun("f", 0, 0, ret1())),
	} {
		e, _, _ := code.Check(m)
		if e == api.OK {
			t.Errorf("%q may be run", s)
		}
		wantPrint(t, m, "", e)
		wantNone(t, s, e, 0)
		// A line that is wrong is told ahead of that.
		wantWrong(t, s+"\n ?\n", len(s)+2)
	}
	wantPrint(t, api.Module{}, "", api.ErrModule)
	wantPrint(t, mod(fun("f", 0, 0, op(0))), "", api.ErrCode)
	wantPrint(t, mod(fun("f", 0, 0, op(47))), "", api.ErrCode)
	wantPrint(t, mod(fun("f", 0, 0, api.Instr{Op: api.OpRet, B: 1})), "", api.ErrCode)
	wantPrint(t, mod(fun("f", 0, 0, push(endlessTerm()))), "", api.ErrCode)
}

func TestAs3ManyFunctionsAndInstructions(t *testing.T) {
	for _, n := range []int{63, 64, 65} {
		s := "module m\n"
		var l []api.Func
		for k := range n {
			s += "func f" + strconv.Itoa(k) + " 0 0\n  recv 0 -1\n"
			l = append(l, fun("f"+strconv.Itoa(k), 0, 0, stop()))
		}
		if n <= 64 {
			wantModule(t, mod(l...), s)
			continue
		}
		wantNone(t, s, api.ErrModule, 0)
		wantPrint(t, mod(l...), "", api.ErrModule)
	}
	for _, n := range []int{1023, 1024, 1025} {
		s := "module m\nfunc f 0 0\n" + strings.Repeat("  jump 0\n", n)
		m := mod(fun("f", 0, 0, repeat(n, opA(api.OpJump, 0))...))
		if n <= 1024 {
			wantModule(t, m, s)
			continue
		}
		wantNone(t, s, api.ErrModule, 0)
		wantPrint(t, m, "", api.ErrModule)
	}
}

// longModule is a module whose text has just so many bytes, and the text.
func longModule(bytes int) (api.Module, string) {
	var b strings.Builder
	b.WriteString("module m\n")
	var l []api.Func
	word := strings.Repeat("q", 64)
	for k := 0; b.Len() < bytes-80000; k++ {
		f := fun("f"+strconv.Itoa(k), 0, 0, stop())
		b.WriteString("func " + f.Name + " 0 0\n  recv 0 -1\n")
		for range 1000 {
			f.Code = append(f.Code, push(atom(word)))
			b.WriteString("  push " + word + "\n")
		}
		l = append(l, f)
	}
	f := fun("last", 0, 0, stop())
	b.WriteString("func last 0 0\n  recv 0 -1\n")
	for bytes-b.Len() > 200 {
		f.Code = append(f.Code, push(atom(word)))
		b.WriteString("  push " + word + "\n")
	}
	left := bytes - b.Len() - 3*8
	for _, n := range []int{left / 3, left / 3, left - 2*(left/3)} {
		f.Code = append(f.Code, push(atom(word[:n])))
		b.WriteString("  push " + word[:n] + "\n")
	}
	return mod(append(l, f)...), b.String()
}

func TestAs2AndAs3LongTexts(t *testing.T) {
	for _, n := range []int{api.MaxText - 1, api.MaxText, api.MaxText + 1, api.MaxText + 2, 2 * api.MaxText} {
		m, s := longModule(n)
		if e, _, _ := code.Check(m); e != api.OK || len(s) != n {
			t.Fatal("a module that may not be run, or of another length:", e, len(s), n)
		}
		if n <= api.MaxText {
			wantModule(t, m, s)
			wantParse(t, s[:n-1]+strings.Repeat(" ", api.MaxText+1-n), m)
			wantNone(t, s+strings.Repeat("\n", api.MaxText+1-n), api.ErrLong, 0)
			continue
		}
		wantPrint(t, m, "", api.ErrLong)
		wantNone(t, s, api.ErrLong, 0)
		// Without the last newline a text may be short enough to be read, but not to be printed.
		if n == api.MaxText+1 {
			wantParse(t, s[:n-1], m)
		}
	}
	for _, s := range []string{strings.Repeat(" ", api.MaxText+1), strings.Repeat("\n", api.MaxText+1), strings.Repeat("?", api.MaxText+1), echo + strings.Repeat("; x\n", api.MaxText)} {
		wantNone(t, s, api.ErrLong, 0)
	}
	for _, s := range []string{" ", "\n", ";", ";\n", " \r\n\t"} {
		long := strings.Repeat(s, api.MaxText/len(s))
		wantWrong(t, long, len(long))
		wantParse(t, echo+long[:(api.MaxText-len(echo))/len(s)*len(s)], echoModule())
	}
	wantWrong(t, strings.Repeat("?", api.MaxText), 0)
	wantWrong(t, "module m\n"+strings.Repeat("ret\n", (api.MaxText-9)/4), 9)
	wantNone(t, "module m\n"+strings.Repeat("func f 0 0\n", (api.MaxText-9)/11), api.ErrModule, 0)
}

// An instruction whose own text is too long has no module that could be printed.
func TestAs2InstructionsThatAreTooLong(t *testing.T) {
	l := make([]api.Pattern, 1022)
	for k := range l {
		l[k] = just(atom(strings.Repeat("q", 64)))
	}
	long := recv(0, -1, arm(tup(l...), 0), arm(tup(l...), 0), arm(tup(l...), 0), arm(tup(l...), 0))
	wantPrint(t, mod(fun("f", 0, 0, long)), "", api.ErrLong)
	// The same lists again and again: nobody tells them all.
	m := mod()
	for k := range 64 {
		m.Funcs = append(m.Funcs, fun("f"+strconv.Itoa(k), 0, 0, repeat(100, recv(0, -1, arm(tup(l...), 0)))...))
	}
	wantPrint(t, m, "", api.ErrLong)
	m.Funcs[63].Code = []api.Instr{op(0)}
	wantPrint(t, m, "", api.ErrCode)
}

func TestAs3ExamplesOfTheChapter(t *testing.T) {
	remark := strings.Replace(echo, "-> 0\n", "-> 0   ; everything else is thrown away\n", 1)
	wantParse(t, remark, echoModule())
	m, e, _ := asm.Parse(remark)
	if e != api.OK {
		t.Error(e)
	}
	wantPrint(t, m, echo, api.OK)
	wantUnread(t, "recv 0")
	wantRead(t, "push [1, 2]", push(list(in(1), in(2))))
	wantRead(t, "dup -1", opA(api.OpDup, -1))
	wantUnread(t, "dup -2")
	wantNone(t, "module m", api.ErrModule, 0)
}
