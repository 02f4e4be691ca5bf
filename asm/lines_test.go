package asm_test

import (
	"strings"
	"testing"

	"carousel/api"
	"carousel/asm"
)

// two is a module of two functions, line by line.
func two() []string {
	return []string{"module m", "func f 0 1", "  push {a, [1, 2]}", "  match 2 ? {_, $0} -> 2", "  recv 0 -1", "func g 0 0", "  push nil", "  ret"}
}

func twoModule() api.Module {
	return mod(fun("f", 0, 1, push(tuple(atom("a"), list(in(1), in(2)))), match(2, arm(tup(whatever(), local(0)), 2)), stop()), fun("g", 0, 0, push(api.Term{Kind: api.KindNil}), ret()))
}

// wantTwo asks for the module of lines that say the same.
func wantTwo(t *testing.T, lines []string) {
	t.Helper()
	s := strings.Join(lines, "\n")
	wantParse(t, s, twoModule())
	wantParse(t, s+"\n", twoModule())
}

// changed are the lines with one of them changed, or all.
func changed(t *testing.T, change func(string) string) {
	t.Helper()
	all := two()
	for k, line := range two() {
		l := two()
		l[k] = change(line)
		all[k] = l[k]
		wantTwo(t, l)
	}
	wantTwo(t, all)
}

func TestAs3BlanksAndRemarks(t *testing.T) {
	wantTwo(t, two())
	wantModule(t, twoModule(), strings.Join(two(), "\n")+"\n")
	for _, blank := range []string{" ", "\t", "\r", "  \t \r ", strings.Repeat(" ", 1000)} {
		changed(t, func(s string) string { return blank + s })
		changed(t, func(s string) string { return s + blank })
		changed(t, func(s string) string { return strings.TrimLeft(s, " ") })
		changed(t, func(s string) string { return strings.ReplaceAll(s, " ", blank) })
		changed(t, func(s string) string { return blank + strings.ReplaceAll(s, " ", " "+blank) + blank })
	}
	for _, remark := range []string{";", "; x", " ;", " ; module n", "\t; func f 0 0", ";;", " ; ; ;", "; \x00\xff é ? ->", " ; " + strings.Repeat("q", 10000)} {
		changed(t, func(s string) string { return s + remark })
		changed(t, func(s string) string { return s + remark + "\n" + remark })
		changed(t, func(s string) string { return remark + "\n" + s })
		changed(t, func(s string) string { return remark + "\n\n" + s + "\n\n" + remark })
	}
}

func TestAs3EmptyLines(t *testing.T) {
	for _, empty := range []string{"", " ", "\t", "\r", " \t\r ", "\n", "\n\n\n", "\n \n\t\n\r"} {
		changed(t, func(s string) string { return empty + "\n" + s })
		changed(t, func(s string) string { return s + "\n" + empty })
	}
	s := strings.Join(two(), "\n")
	for _, end := range []string{"", "\n", "\n\n", " ", "\t\r\n", ";", "; x", "\n;", "\n; x", "\n ; x\n", "\n \t", "\r\n\r\n", "\r"} {
		wantParse(t, s+end, twoModule())
	}
	wantParse(t, strings.Join(two(), "\r\n")+"\r\n", twoModule())
}

// A carriage return, a form feed, a zero and the like end no line.
func TestAs3WhatEndsALine(t *testing.T) {
	for _, sep := range []string{"\r", "\f", "\v", "\x00", "\u2028", "\u0085", " ", "\\n", ","} {
		wantWrong(t, strings.Join(two(), sep), 0)
		wantWrong(t, "module m\n"+strings.Join(two()[1:], sep), 9)
		wantWrong(t, "module m\nfunc f 0 0\n push 1"+sep+"ret\n", 21)
	}
	for _, s := range []string{"\f", "\v", "\x00", "\u00a0", "\u0085", "\ufeff", "\x80"} {
		wantWrong(t, s+strings.Join(two(), "\n"), 0)
		wantWrong(t, strings.Join(two(), "\n")+"\n  "+s, len(strings.Join(two(), "\n"))+3)
	}
}

// A remark begins at its sign, wherever that stands.
func TestAs3RemarksWithinWords(t *testing.T) {
	wantParse(t, "module m;odule\nfunc f 0 0;0\nrecv 0 -1;0\n", mod(fun("f", 0, 0, stop())))
	wantParse(t, "module m\nfunc f 0 0\nrecv 0 -1 ? _ -> 0;1 ? _ -> x\n", mod(fun("f", 0, 0, recv(0, -1, arms(0)...))))
	for line, ok := range map[string]bool{"push {a; }": false, "push {a}; }": true, "pu;sh 1": false, ";push 1": true, "push ; 1": false, "recv 0 -1 ? _ ; -> 0": false, "recv 0 -1 ? _ -> ; 0": false, "recv 0 -1 ;? _ -> 0": true, "recv 0 ; -1": false} {
		s := "module m\nfunc f 0 0\nrecv 0 -1\n"
		_, e, at := asm.Parse(s + "  " + line + "\n")
		if ok != (e == api.OK) || !ok && (e != api.ErrAsm || at != len(s)+2) {
			t.Errorf("%q: %d, %d", line, e, at)
		}
	}
	wantWrong(t, "mod;ule m\n", 0)
	wantWrong(t, "module ;m\n", 0)
	wantWrong(t, "module m\nfunc f 0; 0\nret\n", 9)
}

func TestAs3NoLine(t *testing.T) {
	for _, s := range []string{"", " ", "\n", "\t\r\n ", ";", "; x", ";\n", "; x\n", "; module m\n; func f 0 0\n;ret", "\n\n\n", "\n ; x\n\n;\n ", " ;", "\r"} {
		wantWrong(t, s, len(s))
	}
}

// aheads stand ahead of a line without changing anything; the line's place is behind them.
func aheads() []string { return []string{"", " ", "\t\r ", "\n", "; x\n", " ;x\n\n  ", "\r\n\t"} }

func TestAs3WrongFirstLines(t *testing.T) {
	for _, line := range []string{"module", "module ", "module m m", "module m 0", "module m m m", "modul m", "modules m", "MODULE m", "Module m", "m", "m module", "mod m", "func f 0 0", "ret", "module,m", "module,", "push 1", "?", "recv 0 -1 ? _ -> 0", "\x00", "\xff", "\"module\" m", "module: m", "module\fm", "\fmodule m", "\ufeffmodule m", "é", "#", "-", "module\x00 m"} {
		for _, ahead := range aheads() {
			for _, behind := range []string{"", "\n", " ; x", "\nmodule m\nfunc f 0 0\nrecv 0 -1\n", "\nfunc\n", "\n?\n"} {
				wantWrong(t, ahead+line+behind, len(ahead))
			}
		}
	}
}

func TestAs3WrongFuncs(t *testing.T) {
	for _, line := range []string{"func", "func ", "func f", "func f 0", "func 0 0", "func f 0 0 0", "func f 0 0 ret", "func f 0 0 ?", "func f f 0", "func f 0 f", "func f g 0 0", "func f 0,0", "func f 0 0,", "func f +1 1", "func f -0 1", "func f 1 -0", "func f 01 1", "func f 1 01", "func f 00 1", "func f 1 00", "func f 4611686018427387904 1", "func f 0 4611686018427387904", "func f -4611686018427387904 0", "func f 0 18446744073709551616", "func f 0 1+2i", "func f 0+0i 0", "func f #1 1", "func f true 1", "func f 0 nil", "func f {} 0", "func f 1.0 1", "func f 0x0 0", "func f - 0", "func f -- 0", "func f 1 ٣", "func f 0\x000", "func f 0 0\x00", "func f 0 0 \xff"} {
		for _, ahead := range aheads() {
			for _, behind := range []string{"", "\n", " ; x", "\nfunc f 0 0\nrecv 0 -1\n", "\nfunc\n", "\n?\n"} {
				first := "module m\n" + ahead
				wantWrong(t, first+line+behind, len(first))
				second := "module m\nfunc e 0 0\nret\n" + ahead
				wantWrong(t, second+line+behind, len(second))
			}
		}
	}
}

// A line that begins by nearly `func` is an instruction, and none.
func TestAs3WordsLikeFunc(t *testing.T) {
	for _, line := range []string{"FUNC f 0 0", "Func f 0 0", "funct f 0 0", "fun f 0 0", "func,f 0 0", "func? f 0 0", "module m", "module n", "f func 0 0", "func\x00 f 0 0", "func\ff 0 0"} {
		for _, ahead := range aheads() {
			first := "module m\n" + ahead
			wantWrong(t, first+line+"\nfunc f 0 0\nrecv 0 -1\n", len(first))
			second := "module m\nfunc f 0 0\nrecv 0 -1\n" + ahead
			wantWrong(t, second+line+"\nrecv 0 -1\n", len(second))
		}
	}
}

func TestAs3InstructionsAheadOfTheFirstFunction(t *testing.T) {
	for _, x := range samples() {
		for _, ahead := range aheads() {
			s := "module m\n" + ahead
			wantWrong(t, s+x.s, len(s))
			wantWrong(t, s+x.s+"\nfunc f 0 0\nrecv 0 -1\n", len(s))
		}
	}
}

func TestAs3WrongInstructions(t *testing.T) {
	for _, line := range []string{"recv 0", "dup -2", "dup", "dup 0 0", "push", "push [1, 2", "push Ab", "kind 3", "jump 1048577", "jump -2", "spawn 0", "match 0?_->1", "match 0 ? _ -> 1 2", "match 0 ? $32 -> 1", "recv 0 -1 ? {$0, $0} -> 1", "recv 0 -1" + strings.Repeat(" ? _ -> 0", 33), "RET", "ret ret", "nop", "?", "->", "\x00", "ret\x00", "\xff", "é", "call f", "push 1 ? _ -> 0", "ret;"[:3] + "?"} {
		for _, ahead := range aheads() {
			for _, behind := range []string{"", "\n", " ; x", "\nret", "\nfunc\n", "\nfunc f 0 0\nret\n", "\n?\n"} {
				for _, first := range []string{"module m\nfunc f 0 0\n", "module m\nfunc f 0 0\nret\n", "module m\nfunc f 0 0\nret\nfunc g 0 0\n", "\n module M\nfunc F 9 0\nload 7\n"} {
					wantWrong(t, first+ahead+line+behind, len(first+ahead))
				}
			}
		}
	}
}
