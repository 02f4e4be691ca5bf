package asm_test

import (
	"strconv"
	"strings"
	"testing"

	"carousel/api"
)

// Blanks may stand about all words, more than one.
func TestAs1Blanks(t *testing.T) {
	for _, x := range samples() {
		for _, blank := range []string{" ", "\t", "\r", " \t\r ", "   "} {
			s := strings.ReplaceAll(x.s, " ", blank)
			for _, s := range []string{s, blank + s, s + blank, blank + s + blank} {
				wantRead(t, s, x.i)
			}
		}
	}
}

// Of all bytes just four are blanks, and of these a newline stands in no instruction's text.
func TestAs1BytesThatAreNoBlanks(t *testing.T) {
	for b := range 256 {
		s := string([]byte{byte(b)})
		if strings.Contains(" \t\r", s) {
			wantRead(t, s+"dup"+s+s+"7"+s, opA(api.OpDup, 7))
			wantRead(t, s+"match"+s+"7"+s+"?"+s+"_"+s+"->"+s+"0"+s, match(7, arms(0)...))
			continue
		}
		for _, text := range []string{s + "ret", "ret" + s, "ret " + s, s + " ret", s + "dup 7", "dup" + s + "7", "dup " + s + "7", "dup 7 " + s, "push" + s + "a", "recv 0" + s + "-1", "recv 0 0" + s + "? _ -> 0", "match 0 ?" + s + " _ -> 0", "match 0 ? _ " + s + " -> 0", "match 0 ? _ -> " + s + "? _ -> 1"} {
			if s != "0" && s != "?" && !strings.Contains(text, "match 0 ?? _") && !(s >= "0" && s <= "9") {
				wantUnread(t, text)
			}
		}
	}
}

func TestAs1NewlinesAndRemarks(t *testing.T) {
	for _, x := range samples() {
		for _, s := range []string{x.s + "\n", "\n" + x.s, " \n " + x.s, x.s + " \n ", x.s + "\r\n", strings.Replace(x.s+" ", " ", "\n", 1), strings.Replace(x.s+" ", " ", " \n ", 1), x.s + "\nret", x.s + ";", x.s + " ; remark", ";" + x.s, "; remark", x.s + ";\n"} {
			wantUnread(t, s)
		}
	}
	for _, s := range []string{"push [1,\n2]", "push\n1", "push \n1", "push 1\n", "push {\n}", "match 0 ?\n_ -> 0", "match 0 ? {_,\n_} -> 0", "match 0 ? _ ->\n0", "match 0 ? _ -> 0\n", "recv 0\n0", "\n", ";", "\n\n"} {
		wantUnread(t, s)
	}
}

func TestAs1NoWords(t *testing.T) {
	for _, s := range []string{"", " ", "\t", "\r", " \t\r ", strings.Repeat(" ", 1000)} {
		wantUnread(t, s)
	}
}

// Names are small letters, whole words.
func TestAs1Names(t *testing.T) {
	for _, name := range all() {
		for _, s := range []string{strings.ToUpper(name), strings.ToUpper(name[:1]) + name[1:], name + "s", name[:len(name)-1], "Op" + name, name + ",", "_" + name, name + "\x00", "\x00" + name, name + "0", "." + name, name + "é"} {
			if opOf(s) == 0 {
				wantUnread(t, s)
				wantUnread(t, s+" 1")
				wantUnread(t, s+" 0 0")
			}
		}
	}
	for _, s := range []string{"module", "module m", "func", "func f 0 0", "nop", "1", "-1", "?", "? _ -> 0", "->", "nil", "true", "0", "receive 0 0", "é", "\xff", "op", "match?", "recv?", "?match 0"} {
		wantUnread(t, s)
	}
}

// Each operation has just so many words.
func TestAs1HowManyWords(t *testing.T) {
	for _, x := range samples() {
		if x.i.Op == api.OpPush {
			continue
		}
		for _, more := range []string{" 0", " x", " ,", " ->", " -> 0", " 0 0", " " + x.s, " \xff", " nil"} {
			if !strings.HasSuffix(x.s, " 0") || len(x.i.Arms) > 0 || x.i.Op != api.OpRecv && x.i.Op != api.OpSpawn {
				wantUnread(t, x.s+more)
			}
		}
		if n := x.i.Op; has(n) == "A" || has(n) == "AB" || has(n) == "" {
			wantUnread(t, x.s+" ? _ -> 0")
			wantUnread(t, x.s+" ?")
		}
		if l := strings.Fields(x.s); has(x.i.Op) != "" {
			wantUnread(t, l[0])
			wantUnread(t, l[0]+" ")
			wantUnread(t, l[0]+" ? _ -> 0")
			wantUnread(t, l[0]+" 0x0")
		}
	}
	for _, s := range []string{"recv 0", "recv 0 ", "recv ? _ -> 0", "recv 0 ? _ -> 0", "recv 0 0 0", "recv 0 0 0 ? _ -> 0", "recv 0 -1 -1", "spawn 0", "spawn 0 0 0", "spawn", "match", "match 0 0", "match 0 0 ? _ -> 0", "match ? _ -> 0", "dup 0 0", "dup 0 ? _ -> 0", "ret 0", "ret nil", "jump", "jump a", "jump 0 ret", "if true", "call f", "recv x 0", "recv 0 x", "spawn f 0", "spawn 0 high", "match x", "match x ? _ -> 0"} {
		wantUnread(t, s)
	}
}

// Numbers are read just in the form in which they are written.
func TestAs1FormsOfNumbers(t *testing.T) {
	for _, s := range []string{"+5", "+0", "-0", "00", "01", "007", "-01", "--1", "-", "+", "1+", "1_0", "0x1", "1e3", "1.0", "1,", ",1", "1;", "1.", "5i", "1+2i", "3+0i", "1i", "٣", "１", "#1", "<1.1>", "$1", "true", "nil", "a", "{}", "[1]", "\x00", "1\x00", "4611686018427387904", "-4611686018427387904", "9223372036854775807", "18446744073709551616", "18446744073709551617", "340282366920938463463374607431768211456", strings.Repeat("1", 1000), strings.Repeat("0", 1000), "-" + strings.Repeat("0", 10) + "1"} {
		for _, text := range []string{"dup " + s, "jump " + s, "call " + s, "spawn " + s + " 0", "spawn 0 " + s, "recv " + s + " 0", "recv 0 " + s, "recv 0 " + s + " ? _ -> 0", "match " + s, "match " + s + " ? _ -> 0", "match 0 ? _ -> " + s, "match 0 ? _ ->" + s, "recv 0 0 ? _ -> " + s + " ? _ -> 1", "recv 0 0 ? _ -> 1 ? _ -> " + s + "? _ -> 2"} {
			if !strings.ContainsAny(s, ";") {
				wantUnread(t, text)
			}
		}
	}
}

// About `?` and `->` blanks may stand, but need not; ahead of the first `?` one must.
func TestAs1BlanksAboutArms(t *testing.T) {
	want := match(3, arm(tup(local(0), local(1)), 1), arm(whatever(), -1), arm(just(in(-7)), 20))
	gaps := []string{"", " ", "\t\r"}
	for _, a := range gaps {
		for _, b := range gaps {
			for _, c := range gaps {
				for _, d := range gaps {
					arms := "?" + a + "{$0,$1}" + b + "->" + c + "1" + d + "?" + a + "_" + b + "->" + c + "-1" + d + "?" + a + "-7" + b + "->" + c + "20" + d
					wantRead(t, "match 3 "+arms, want)
					wantUnread(t, "match 3"+arms)
					want := recv(3, 4, want.Arms...)
					wantRead(t, "recv 3 4\t"+arms, want)
					wantRead(t, "recv 3 4   "+arms, want)
					wantUnread(t, "recv 3 4"+arms)
					wantUnread(t, "recv 3? 4"+arms)
				}
			}
		}
	}
	wantRead(t, "match 0 ?_->1?_->2?_->3", match(0, arms(1, 2, 3)...))
	wantRead(t, "match 0 ?_->-1?_->-1", match(0, arms(-1, -1)...))
	wantRead(t, "match 0 ?-1->-1?1->1", match(0, arm(just(in(-1)), -1), arm(just(in(1)), 1)))
	wantRead(t, "match 0 ?<3.1>->1", match(0, arm(just(api.Term{Kind: api.KindPid, P: api.Pid{N: 3, Gen: 1}}), 1)))
	wantRead(t, "match 0 ?[a|$3]->1", match(0, arm(api.Pattern{Kind: api.PatList, L: []api.Pattern{just(atom("a"))}, Rest: []api.Pattern{local(3)}}, 1)))
}

func TestAs1WrongArms(t *testing.T) {
	for _, s := range []string{
		"?", "? ", "??", "? _", "? _ ->", "? _ -> ", "? -> 1", "?-> 1", "?->", "_ -> 1", "-> 1", "? _ > 1", "? _ - > 1", "? _ - 1", "? _ 1", "? _ => 1", "? _ -> 1 -> 2", "? _ -> -> 2", "? _ ->-> 2", "? _ -> 1 2", "? _ -> 1 ?", "? _ -> 1 ? ", "? _ -> 1 ??", "? _ -> 1 ?? _ -> 2", "? ? _ -> 1", "? _ ? -> 1", "? _ ? _ -> 1", "? _ -> ? _ -> 1", "? _ -> 1 ? _", "? _ -> 1 ? _ ->", "? _ -> 1 _ -> 2", "? _ -> 1, ? _ -> 2", "? _ -> 1 x", "? _ -> x", "? _ -> 1x", "? _ -> 1 ; 2", "x ? _ -> 1", "? _ -> 1\n", "? {_ -> 1 } -> 2", "? _->1->", "? _-->1", "? -->1", "? _ -> --1", "? _ ->> 1", "? _ -> 1? -> 2", "? _ -> 1 ? -> 2 ? _ -> 3",
	} {
		wantUnread(t, "match 0 "+s)
		wantUnread(t, "recv 0 -1 "+s)
		if !strings.Contains(s, ";") {
			wantUnread(t, "recv 0 -1 ? _ -> 1 "+s)
		}
	}
}

// OpPush's term is all that stands behind its name.
func TestAs1BlanksInTerms(t *testing.T) {
	for s, x := range map[string]api.Term{"[1,2]": list(in(1), in(2)), "[ 1 , 2 ]": list(in(1), in(2)), "{ }": tuple(), "\t{\ta\r,\tb }\r": tuple(atom("a"), atom("b")), "  7": in(7), "7 ": in(7), "{ [ ] , [ [ ] ] }": tuple(list(), list(list()))} {
		wantRead(t, "push "+s, push(x))
		wantRead(t, "push\t"+s+" ", push(x))
		wantRead(t, " push \r"+s, push(x))
		wantUnread(t, "push "+s+" "+s)
		wantUnread(t, "push "+s+" ? _ -> 0")
		wantUnread(t, "push "+s+" 0")
	}
	wantRead(t, "push -7", push(in(-7)))
	wantUnread(t, "push - 7")
	wantUnread(t, "push 3 +2i")
	wantUnread(t, "push < 1.1>")
	for n := range 100 {
		wantRead(t, "push "+strconv.Itoa(n), push(in(n)))
	}
}
