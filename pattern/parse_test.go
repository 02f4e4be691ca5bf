package pattern_test

import (
	"strconv"
	"strings"
	"testing"

	"carousel/api"
	"carousel/pattern"
)

func TestPa3Parse(t *testing.T) {
	for _, x := range samples() {
		wantParse(t, x.s, x.p, api.OK, 0)
	}
}

func TestPa3ParseLocals(t *testing.T) {
	for n := range api.MaxLocals {
		wantParse(t, "$"+strconv.Itoa(n), local(n), api.OK, 0)
	}
	for _, s := range []string{"$", "$ 1", "$\t1", "$32", "$33", "$99", "$100", "$310", "$01", "$00", "$031", "$0031", "$-1", "$-0", "$+1", "$a", "$_", "$$1", "$$", "$:", "$,", "$}", "$4611686018427387904", "$9223372036854775808", "$18446744073709551616", "$18446744073709551617", "$" + strings.Repeat("0", 100), "$" + strings.Repeat("1", 100000), "$é", "$\xff", "$١"} {
		wantWrong(t, s, 0)
		wantWrong(t, "{a, "+s+"}", 4)
		wantWrong(t, "[a | "+s, 5)
	}
	for s, place := range map[string]int{"$1a": 2, "$1_": 2, "$1$2": 2, "$1.0": 2, "$1+2i": 2, "$1-1": 2, "$1,": 2, "$1]": 2, "$1|": 2, "$1 2": 3, "$1é": 2, "$31:int": 3, "{$1$2}": 3, "[$1 $2]": 4, "$0 $": 3} {
		wantWrong(t, s, place)
	}
	wantParse(t, "{$1,$2}", tup(local(1), local(2)), api.OK, 0)
	wantParse(t, "[$1|$2]", ahead(local(2), local(1)), api.OK, 0)
}

func TestPa3ParseLocalsThatStandTwice(t *testing.T) {
	for _, s := range []string{"{$0, $0}", "[$31, a, $31]", "[$1 | $1]", " {_, [$2], {{$2}}}", "[| [$5 | [$6 | $5]]]", "{$0, $1, $0, $1}"} {
		wantWrong(t, s, 0)
		// A token that can not stand there is told ahead of them.
		wantWrong(t, s+" ,", len(s)+1)
		wantWrong(t, s[:len(s)-1], len(s)-1)
		wantWrong(t, "{"+s+", $32}", len(s)+3)
	}
}

func TestPa3ParseKinds(t *testing.T) {
	for i, name := range []string{"nil", "bool", "int", "complex", "atom", "pid", "ref", "tuple", "list"} {
		wantParse(t, ":"+name, some(i+api.KindNil), api.OK, 0)
		wantParse(t, "{:"+name+"}", tup(some(i+api.KindNil)), api.OK, 0)
		wantParse(t, "[:"+name+"|:"+name+"]", ahead(some(i+api.KindNil), some(i+api.KindNil)), api.OK, 0)
		for b := range 256 {
			s := ":" + name + string([]byte{byte(b)})
			switch {
			case strings.ContainsRune("abcdefghijklmnopqrstuvwxyzABCDEFGHIJKLMNOPQRSTUVWXYZ0123456789_", rune(b)):
				wantWrong(t, s, 0)
			case !strings.ContainsRune(" \t\n\r", rune(b)):
				wantWrong(t, s, len(name)+1)
			}
		}
		for _, s := range []string{": " + name, "::" + name, ":" + name[:len(name)-1], ":" + name[1:], ":" + strings.ToUpper(name), ":" + name + name, ":_" + name, ":$" + name} {
			wantWrong(t, s, 0)
			wantWrong(t, "[ "+s+"]", 2)
		}
		for _, behind := range []string{"$0", "é", ":int", "{}", "-1"} {
			wantWrong(t, ":"+name+behind, len(name)+1)
		}
		wantWrong(t, ":"+name+" _", len(name)+2)
	}
	for _, s := range []string{":", ": ", ":foo", ":true", ":false", ":a", ":any", ":0", ":1", ":-", ":_", ":{", ":}", ":é", ":\xff", ":Int", ":" + strings.Repeat("a", 1000), ":" + strings.Repeat("a", 65)} {
		wantWrong(t, s, 0)
		wantWrong(t, "{:int, "+s, 7)
	}
}

func TestPa3ParseWhatever(t *testing.T) {
	for s, place := range map[string]int{"__": 1, "_a": 1, "_0": 1, "_1_": 1, "_ _": 2, "_$0": 1, "_:int": 1, "_|": 1, "_,": 1, "1_": 1, "{__}": 2, "{_ _}": 3, "$0_": 2, "#1_": 2, "{}_": 2, "_{}": 1, "_é": 1} {
		wantWrong(t, s, place)
	}
	wantParse(t, "a_", just(atom("a_")), api.OK, 0)
	wantParse(t, "[_,_|_]", ahead(whatever(), whatever(), whatever()), api.OK, 0)
}

func TestPa3ParseRests(t *testing.T) {
	for s, p := range map[string]api.Pattern{
		"[|_]": ahead(whatever()), "[| _]": ahead(whatever()), "[ |_ ]": ahead(whatever()), "[a|_]": ahead(whatever(), just(atom("a"))), "[a | _]": ahead(whatever(), just(atom("a"))), "[a,b|$3]": ahead(local(3), just(atom("a")), just(atom("b"))), "[|[]]": ahead(lst()), "[|{}]": ahead(tup()), "[|[|[|_]]]": ahead(ahead(ahead(whatever()))),
		"[1|[2|[3]]]": ahead(ahead(lst(just(in(3))), just(in(2))), just(in(1))), "[[|_]|_]": ahead(whatever(), ahead(whatever())), "{[a|_],[b|_]}": tup(ahead(whatever(), just(atom("a"))), ahead(whatever(), just(atom("b")))), "[-1|-2]": ahead(just(in(-2)), just(in(-1))), "[1+1i|#1]": ahead(just(ref(1)), just(num(1, 1))),
	} {
		wantParse(t, s, p, api.OK, 0)
		wantParse(t, "{"+s+",5}", tup(p, just(in(5))), api.OK, 0)
		wantParse(t, "[5|"+s+"]", ahead(p, just(in(5))), api.OK, 0)
	}
	for s, place := range map[string]int{
		"|": 0, "| _": 0, "[|]": 2, "[| ]": 3, "[a |]": 4, "[a, | _]": 4, "[a,|_]": 3, "[,|_]": 1, "[a | _, b]": 6, "[a | _ b]": 7, "[a | _ | _]": 7, "[a||_]": 3, "[a | | _]": 5, "[| _,]": 4, "[| _}": 4, "[| _ _]": 5, "[| _ |]": 5, "[|,]": 2, "[|}": 2, "[a | {]": 6, "[| []": 5, "[| [],]": 5, "[| [] []]": 6, "[| [_ | _ | _]]": 10, "[| [_ | _], _]": 10,
		"{|": 1, "{| _}": 1, "{a | _}": 3, "{a|_}": 2, "{a, | _}": 4, "{[a] | _}": 5, "[{a | _}]": 4, "[{| _} | _]": 2, "_ | _": 2, "[a] | _": 4, "[a | _] | _": 8, "{[| _}": 5, "[| {_ | _}]": 6, "[| $0$1]": 5,
		"[|": 2, "[a |": 4, "[a | ": 5, "[a | _": 6, "[a | _ ": 7, "[a | [": 6, "[a | [b]": 8, "[a | [b | _]": 12, "[| {": 4,
	} {
		wantWrong(t, s, place)
	}
}

func TestPa3ParseTokensThatCanNotStandThere(t *testing.T) {
	for s, place := range map[string]int{
		"{a, }": 4, "[a, ]": 4, "{,}": 1, "{,_}": 1, "[,]": 1, ",": 0, " ,": 1, "}": 0, "]": 0, "{]": 1, "[}": 1, "{_]": 2, "[_}": 2, "[{]}": 2, "{[}]": 2, "[[]}": 3, "{{}]": 3, "{_,,_}": 3, "{_ _}": 3, "[1 2]": 3, "{a{}}": 2, "{{}a}": 3, "[[][]]": 3, "{}{": 2, "a{": 1, "1[": 1, "[_],": 3, "[_]]": 3, "{{_}}}": 5, "{}}": 2, "_]": 1, "_}": 1,
		"a b": 2, "_,_": 1, "_,": 1, "{} {}": 3, "[] ]": 3, "{_}, {_}": 3, "_ ?": 2, "_ \xff": 2, "{_ ?}": 3, "{?}": 1, "{_, ?}": 4, "{ ?": 2, "{a} -> 3": 4, "{_, 007": 4, "{_ 007": 3, "$0 $1": 3, ":int :int": 5, "[| _] _": 6, "[_ | _]_": 7, "{}|": 2,
	} {
		wantWrong(t, s, place)
	}
}

// Each of these can stand nowhere, wherever it stands.
func TestPa3ParseTokensThatCanStandNowhere(t *testing.T) {
	for _, s := range []string{
		"007", "-0", "+5", "00", "3-0i", "3+04i", "03+4i", "4611686018427387904", "-4611686018427387904", "1073741825+1i", "1+1073741825i", "99999999999999999999", "-", "- 1", "Ab", "A", strings.Repeat("a", 65), "<1.0>", "<256.1>", "<1.01>", "<1", "<", "<.1>", "<1.>", "< 1.1>", "#0", "#01", "#", "# 1", ">", ".", "?", ";", "(", ")", "\"a\"", "'", "@", "=", "*", "/", "\\", "~", "%", "!", "&", "^", "`", "\x00", "\x7f", "\v", "\f", "é", "ａ", "１", "١", "\u00a0", "\u2003", "\ufeff", "\xff", "\x80", "\xc3", "\xc3(", "\xed\xa0\x80",
		"$32", "$01", "$", "$ 1", ":foo", ":", ": int",
	} {
		for _, before := range []string{"", " ", "{", "[", "[ ", "{_, ", "[_,", "[_ | ", "[| ", "[[]| ", "{:int, $0, [| [", "{a, [1+1i | {"} {
			wantWrong(t, before+s, len(before))
			wantWrong(t, before+s+"]", len(before))
			wantWrong(t, before+s+", _}", len(before))
		}
		// Where no pattern can stand it is wrong, too, and told as the first.
		if !strings.HasPrefix(s, "+") {
			for _, before := range []string{"_ ", "{} ", "[_ ", "{_ ", "[| _ ", ":int ", "$0 ", "[_ | _] "} {
				wantWrong(t, before+s, len(before))
			}
		}
	}
}

func TestPa3ParseBytesAbove127(t *testing.T) {
	for _, s := range []string{"é", "😀", "\xff", "\x80", "\xc3", "\xe2\x82", "\u0085", "\u3000", "\ufffd"} {
		for before, place := range map[string]int{"": 0, " ": 1, "{": 1, "{_, ": 4, "[_|": 3, "[|": 2, "_": 1, "a": 1, "12": 2, "1+2i": 4, "1+": 1, "-1": 2, "<1.1>": 5, "<1.1": 0, "#7": 2, "$1": 2, "$": 0, ":int": 4, ":in": 0, ":": 0, "{}": 2, "[_ | _": 6, "[_ | _]": 7} {
			wantWrong(t, before+s, place)
			wantWrong(t, before+s+"}", place)
		}
	}
}

func TestPa3ParseTextsThatEndTooEarly(t *testing.T) {
	for _, s := range []string{"", " ", "\t\r\n ", "{", "[", "{ ", "{_", "{a ", "{_,", "{$0, ", "[[", "[[]", "[[],", "[|", "[| ", "[_ |", "[_ | _", "[_ | _ ", "[_ | {", "[_ | {}", "[[_ | _]", "[[_ | _],\n", "{ab, [1, {", "{ab, [1, {}]", "[a | [b | [c", "{:int", "{$31"} {
		wantWrong(t, s, len(s))
	}
}

// Of all bytes just four are blanks.
func TestPa3ParseBytesThatAreNoBlanks(t *testing.T) {
	for b := range 256 {
		s := string([]byte{byte(b)})
		if strings.Contains(" \t\n\r", s) {
			wantParse(t, s+"_", whatever(), api.OK, 0)
			wantParse(t, "_"+s, whatever(), api.OK, 0)
			wantParse(t, "["+s+"|"+s+"_"+s+"]", ahead(whatever()), api.OK, 0)
			wantWrong(t, s, 1)
			continue
		}
		wantWrong(t, "_"+s, 1)
		wantWrong(t, "_ "+s, 2)
		if s != "]" {
			wantWrong(t, "[| _"+s, 4)
		}
	}
}

// spread is a text with blanks about each of its tokens.
func spread(s, blanks string) string {
	var b strings.Builder
	b.WriteString(blanks)
	for _, p := range pieces(s) {
		b.WriteString(p.s)
		b.WriteString(blanks)
	}
	return b.String()
}

func TestPa3ParseBlanks(t *testing.T) {
	for _, x := range samples() {
		for _, blanks := range []string{" ", "\t", "\n", "\r", " \t\r\n  "} {
			wantParse(t, spread(x.s, blanks), x.p, api.OK, 0)
		}
		tight := strings.ReplaceAll(x.s, " ", "")
		wantParse(t, tight, x.p, api.OK, 0)
		wantParse(t, "\n"+tight+"\n", x.p, api.OK, 0)
	}
	for _, blank := range []string{" ", "\t", "\n", "\r"} {
		for s, place := range map[string]int{"$ 1": 0, "$1 0": 3, ": int": 0, ":in t": 0, ":int s": 5, "a b": 2, "_ a": 2, "3 +4i": 2, "- 1": 0, "# 1": 0, "<1. 1>": 0} {
			wantWrong(t, strings.ReplaceAll(s, " ", blank), place)
			wantWrong(t, "[_,"+strings.ReplaceAll(s, " ", blank), place+3)
		}
	}
}

func TestPa3ParseLongTexts(t *testing.T) {
	for _, x := range []sample{{whatever(), "_"}, {local(31), "$31"}, {some(api.KindList), ":list"}, {ahead(local(1), tup(just(atom("a")))), "[{a} | $1]"}} {
		pad := api.MaxText - len(x.s)
		for _, s := range []string{x.s + strings.Repeat(" ", pad), strings.Repeat("\n", pad) + x.s, strings.Repeat("\t", pad/2) + x.s + strings.Repeat("\r", pad-pad/2)} {
			wantParse(t, s, x.p, api.OK, 0)
			wantParse(t, s+" ", api.Pattern{}, api.ErrLong, 0)
			wantParse(t, " "+s, api.Pattern{}, api.ErrLong, 0)
			wantParse(t, s+s, api.Pattern{}, api.ErrLong, 0)
		}
	}
	for s, place := range map[string]int{" ": api.MaxText, "[": api.MaxText, "{": api.MaxText, "[|": api.MaxText, "[_,": 3 * (api.MaxText / 3), "a": 0, "1": 0, "?": 0, "$": 0, "$1": 2, ":": 0, ":a": 0, "_": 1, "|": 0, "]": 0, "\xff": 0, "{_|": 2, "[_|_,": 4, "<": 0, "1-": 1} {
		long := strings.Repeat(s, api.MaxText/len(s))
		wantWrong(t, long, place)
		wantParse(t, strings.Repeat(s, api.MaxText/len(s)+1), api.Pattern{}, api.ErrLong, 0)
	}
	wantWrong(t, "$"+strings.Repeat("0", api.MaxText-1), 0)
	wantWrong(t, ":"+strings.Repeat("i", api.MaxText-1), 0)
}

// row is the text of a list of so many parts, all but itself the same.
func row(parts int, s string) string {
	return "[" + strings.Join(strings.Fields(strings.Repeat(s+" ", parts-1)), ",") + "]"
}

func TestPa3ParsePartsAndDepths(t *testing.T) {
	half := api.MaxText / 2
	for s, e := range map[string]api.Errno{
		row(1024, "_"): api.OK, row(1025, "_"): api.ErrParts, row(80000, "_"): api.ErrParts, "{" + row(1023, "7") + "}": api.OK, "{" + row(1024, "7") + "}": api.ErrParts, "[" + row(1022, ":int") + "|_]": api.OK, "[" + row(1023, ":int") + "|_]": api.ErrParts, "[|" + row(1024, "a") + "]": api.ErrParts,
		strings.Repeat("[", 64) + strings.Repeat("]", 64): api.OK, strings.Repeat("[", 65) + strings.Repeat("]", 65): api.ErrParts, strings.Repeat("{", 63) + "_" + strings.Repeat("}", 63): api.OK, strings.Repeat("{", 64) + "_" + strings.Repeat("}", 64): api.ErrParts,
		strings.Repeat("[|", 63) + "_" + strings.Repeat("]", 63): api.OK, strings.Repeat("[|", 64) + "_" + strings.Repeat("]", 64): api.ErrParts, strings.Repeat("[_|", 63) + "_" + strings.Repeat("]", 63): api.OK, strings.Repeat("[_|", 64) + "_" + strings.Repeat("]", 64): api.ErrParts,
		strings.Repeat("[", half) + strings.Repeat("]", half): api.ErrParts, strings.Repeat("[|", 80000) + "_" + strings.Repeat("]", 80000): api.ErrParts,
		// Of two parts that may not be the one that stands first.
		"{$0, $0, " + row(1025, "_") + "}": api.ErrPattern, "{" + row(1024, "_") + ", $0, $0}": api.ErrParts, "{$0, " + strings.Repeat("{", 64) + strings.Repeat("}", 64) + ", $0}": api.ErrParts, "{$0, $0, " + strings.Repeat("{", 64) + strings.Repeat("}", 64) + "}": api.ErrPattern,
	} {
		p, f, at := pattern.Parse(s)
		if f != e || at != 0 || e == api.OK && pattern.Check(p, api.MaxLocals) != api.OK || e != api.OK && !same(p, api.Pattern{}) {
			t.Errorf("Parse(%q): %d, %d, not %d", short(s), f, at, e)
		}
	}
	for s, place := range map[string]int{
		row(1025, "_") + "]": len(row(1025, "_")), row(1025, "_")[1:]: 1, strings.Repeat("[", 65) + ":foo": 65, strings.Repeat("[|", 100): 200, strings.Repeat("[", half) + strings.Repeat("]", half-1) + "}": api.MaxText - 1, strings.Repeat("[", half) + strings.Repeat("]", half-1): api.MaxText - 1, strings.Repeat("{", half) + strings.Repeat("]", half): half,
	} {
		wantWrong(t, s, place)
	}
}

// What a call answers does not hang on the calls ahead of it: nor on one that gave up.
func TestR4ParseKnowsOfNoOtherCalls(t *testing.T) {
	for _, s := range []string{"{a, [1, 2", "[[[[", "[a | _, b]", "{$0, $0}", "$32", "", strings.Repeat("[", 1000), row(1025, "_")} {
		for range 3 {
			pattern.Parse(s)
			wantParse(t, "[a | $0]", ahead(local(0), just(atom("a"))), api.OK, 0)
			wantWrong(t, "]", 0)
			wantWrong(t, "{a | _}", 3)
		}
	}
}

// lists are all lists within a pattern.
func lists(p api.Pattern) [][]api.Pattern {
	l := [][]api.Pattern{p.L, p.Rest}
	for _, x := range p.L {
		l = append(l, lists(x)...)
	}
	for _, x := range p.Rest {
		l = append(l, lists(x)...)
	}
	return l
}

// What is done to one list of an answer, its spare room too, is seen in no other one, and in no other answer.
func TestR3ParseAnswersShareNothing(t *testing.T) {
	for _, x := range samples() {
		a, b := read(t, x.s), read(t, x.s)
		for _, l := range lists(a) {
			room := l[len(l):cap(l)]
			for i := range room {
				if !same(room[i], api.Pattern{}) {
					t.Errorf("Parse(%q): something stands behind a list's end", short(x.s))
				}
				room[i] = just(atom("spare"))
			}
		}
		if !same(a, x.p) {
			t.Errorf("Parse(%q): lists share their room", short(x.s))
		}
		for _, l := range lists(a) {
			clear(l)
		}
		if !same(b, x.p) {
			t.Errorf("Parse(%q): two answers share a list", short(x.s))
		}
	}
}
