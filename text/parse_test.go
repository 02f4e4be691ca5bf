package text_test

import (
	"strconv"
	"strings"
	"testing"

	"carousel/api"
	"carousel/text"
)

func TestP42Parse(t *testing.T) {
	for _, x := range samples() {
		wantParse(t, x.s, x.t, api.OK, 0)
	}
}

func TestP42Blanks(t *testing.T) {
	three := list(in(1), in(2), in(3))
	for s, want := range map[string]api.Term{
		" nil ": null(), "\tnil": null(), "nil\n": null(), "\rnil\r": null(), " \t\n\r5\r\n\t ": in(5),
		"{ }": tuple(), "{\t\n\r }": tuple(), "[ ]": list(), " [ ] ": list(), "[\n]": list(), "[{ }]": list(tuple()),
		"[1,2,3]": three, "[1,2 ,3]": three, " [ 1 , 2 , 3 ] ": three, "[1\n,\n2\n,\n3\n]": three, "[\t1\r,2,\r\n3]": three,
		"{a,b}": tuple(atom("a"), atom("b")), "{#1,<1.1>}": tuple(ref(1), pid(1, 1)), "[1,-1]": list(in(1), in(-1)), "[1+1i,-1]": list(num(1, 1), in(-1)),
	} {
		wantParse(t, s, want, api.OK, 0)
	}
}

// Behind a whole term each byte is told but for the blanks and what goes on with the number.
func TestP42BytesThatAreNoBlanks(t *testing.T) {
	for b := range 256 {
		s := string([]byte{byte(b)})
		switch {
		case strings.Contains(" \t\n\r", s):
			wantParse(t, s+"5", in(5), api.OK, 0)
			wantParse(t, "5"+s, in(5), api.OK, 0)
			wantParse(t, "{"+s+"}", tuple(), api.OK, 0)
			wantParse(t, s, api.Term{}, api.ErrText, 1)
		case strings.Contains("0123456789", s):
			wantParse(t, "5"+s, in(50+b-'0'), api.OK, 0)
		default:
			wantParse(t, "5"+s, api.Term{}, api.ErrText, 1)
			wantParse(t, "5 "+s, api.Term{}, api.ErrText, 2)
		}
	}
	for _, s := range []string{"\v", "\f", "\x00", "\x85", "\xa0", "\u0085", "\u00a0", "\u2003", "\u2028", "\ufeff", "\u3000"} {
		wantParse(t, s, api.Term{}, api.ErrText, 0)
		wantParse(t, s+"5", api.Term{}, api.ErrText, 0)
		wantParse(t, "5"+s, api.Term{}, api.ErrText, 1)
		wantParse(t, "{1,"+s+"2}", api.Term{}, api.ErrText, 3)
		wantParse(t, "{ "+s+"}", api.Term{}, api.ErrText, 2)
	}
}

func TestP42BytesAbove127(t *testing.T) {
	for _, s := range []string{"é", "ä", "ß", "λ", "١", "１", "ａ", "😀", "\xff", "\xc3", "\xc3(", "\xe2\x82", "\x80", "\xed\xa0\x80", "\xf4\x90\x80\x80", "\xc0\xaf", "\ufffd"} {
		for before, place := range map[string]int{"": 0, " ": 1, "{": 1, "{a, ": 4, "[1,": 3, "a": 1, "ab": 2, "12": 2, "1+2i": 4, "1+": 1, "1+2": 1, "-1": 2, "-": 0, "<": 0, "<1": 0, "<1.": 0, "<1.1": 0, "<1.1>": 5, "#": 0, "#7": 2, "{}": 2, "{} ": 3, "[[1], [": 7} {
			wantParse(t, before+s, api.Term{}, api.ErrText, place)
			wantParse(t, before+s+"}", api.Term{}, api.ErrText, place)
		}
	}
}

func TestP42Numbers(t *testing.T) {
	for s, n := range map[string]int{"0": 0, "5": 5, "10": 10, "-1": -1, "-10": -10, "4611686018427387903": api.MaxInt, "-4611686018427387903": api.MinInt, "4611686018427387902": api.MaxInt - 1, "1000000007": 1000000007} {
		wantParse(t, s, in(n), api.OK, 0)
	}
	for _, s := range []string{
		"-0", "+5", "+0", "00", "007", "01", "-00", "-01", "-007", "0005",
		"4611686018427387904", "-4611686018427387904", "4611686018427387905", "9223372036854775807", "9223372036854775808", "-9223372036854775808", "-9223372036854775809",
		"18446744073709551615", "18446744073709551616", "18446744073709551621", "99999999999999999999", "-99999999999999999999", "1" + strings.Repeat("0", 100), "-1" + strings.Repeat("0", 1000), strings.Repeat("0", 30) + "5",
		"-", "--1", "- 1", "-a", "-i", "-<", "+", "+i", "++1", ".5",
	} {
		wantParse(t, s, api.Term{}, api.ErrText, 0)
		wantParse(t, "[ "+s+"]", api.Term{}, api.ErrText, 2)
	}
	for s, place := range map[string]int{"1.5": 1, "1e5": 1, "0x10": 1, "1_000": 1, "1 000": 2, "12a": 2, "1,000": 1, "5-": 1, "5+": 1, "0-": 1, "5.": 1, "5-6": 1, "5+6": 1, "5--6": 1, "5i": 1, "0i": 1, "1A": 1} {
		wantParse(t, s, api.Term{}, api.ErrText, place)
	}
}

func TestP42ComplexNumbers(t *testing.T) {
	for _, re := range []int{0, 1, -1, 3, 40, -907, part - 1, part, -part, -part + 1} {
		for _, im := range []int{0, 1, -1, 2, 50, -1000, part - 1, part, -part, -part + 1} {
			sign := "+"
			if im < 0 {
				sign = "-"
			}
			s := strconv.Itoa(re) + sign + strconv.Itoa(max(im, -im)) + "i"
			wantParse(t, s, num(re, im), api.OK, 0)
			wantPrint(t, num(re, im), s, api.OK)
		}
	}
	for _, s := range []string{
		"3-0i", "0-0i", "-0+0i", "-0+1i", "-0-0i", "3+04i", "3-04i", "3+00i", "3-00i", "03+4i", "00+0i", "-03+4i", "007+1i", "3+007i",
		"1073741825+0i", "-1073741825+0i", "0+1073741825i", "0-1073741825i", "1073741825+1073741825i",
		"4611686018427387903+0i", "0+4611686018427387903i", "4611686018427387904+0i", "0-4611686018427387904i", "0+99999999999999999999i", "99999999999999999999+0i", "18446744073709551616+0i", "0+18446744073709551616i",
	} {
		wantParse(t, s, api.Term{}, api.ErrText, 0)
		wantParse(t, "{a, "+s, api.Term{}, api.ErrText, 4)
		wantHead(t, s, api.Term{}, 0, api.ErrText)
	}
}

// A sign belongs to the number ahead of it only if digits and an i are right behind it.
func TestP42SignsBehindNumbers(t *testing.T) {
	for s, place := range map[string]int{
		"3+": 1, "3-": 1, "3+i": 1, "3-i": 1, "3+4": 1, "3-4": 1, "3+4 i": 1, "3+ 4i": 1, "3 +4i": 2, "3 -4i": 2, "3 -2i": 2, "3+-4i": 1, "3--4i": 1, "3++4i": 1, "3+4I": 1, "3+4j": 1, "3+4.0i": 1, "3+a": 1,
		"3+4i5": 4, "3+4ii": 4, "3+4ia": 4, "3+4i+5i": 4, "3+4i-5i": 4, "3+4i i": 5, "3+4i,": 4, "3+4+5i": 1, "-3-4": 2, "-3+": 2, "10-20": 2, "3i": 1, "3+04": 1, "3-0": 1, "-+4i": 0, "-i": 0,
	} {
		wantParse(t, s, api.Term{}, api.ErrText, place)
	}
	wantParse(t, "[3,-4]", list(in(3), in(-4)), api.OK, 0)
	wantParse(t, "[3 -4]", api.Term{}, api.ErrText, 3)
	wantParse(t, "[3-4]", api.Term{}, api.ErrText, 2)
	wantParse(t, "[3-4i]", list(num(3, -4)), api.OK, 0)
}

func TestP42Words(t *testing.T) {
	for _, s := range []string{"a", "abc", "aB9_", "a_", "n", "ni", "nil_", "nilnil", "nIL", "tru", "truee", "trueFalse", "false0", "i", "e5", "x" + strings.Repeat("9", 63), strings.Repeat("n", 64)} {
		wantParse(t, s, atom(s), api.OK, 0)
	}
	wantParse(t, "nil", null(), api.OK, 0)
	wantParse(t, "true", truth(true), api.OK, 0)
	wantParse(t, "false", truth(false), api.OK, 0)
	for _, s := range []string{"Ab", "A", "_", "_a", "Nil", "NIL", "True", "'a", "\"a\"", "@", "`", "|", "$", "$0", ":", ":int", "(", ")", ";", "?", "=", "*", "/", "\\", "~", "%", "!", "&", "^", "\x7f", strings.Repeat("a", 65), "x" + strings.Repeat("_", 1000)} {
		wantParse(t, s, api.Term{}, api.ErrText, 0)
		wantParse(t, "[[], "+s, api.Term{}, api.ErrText, 5)
	}
	for s, place := range map[string]int{"a-b": 1, "a.b": 1, "a b": 2, "nil nil": 4, "a'": 1, "a@b": 1, "abc:": 3, "a(": 1} {
		wantParse(t, s, api.Term{}, api.ErrText, place)
	}
}

func TestP42PidsAndRefs(t *testing.T) {
	for s, want := range map[string]api.Term{"<0.1>": pid(0, 1), "<255.1>": pid(255, 1), "<255.4611686018427387903>": pid(255, api.MaxInt), "<10.10>": pid(10, 10), "#1": ref(1), "#4611686018427387903": ref(api.MaxInt), "#10": ref(10)} {
		wantParse(t, s, want, api.OK, 0)
		wantParse(t, "{"+s+"}", tuple(want), api.OK, 0)
	}
	for _, s := range []string{
		"<256.1>", "<1.0>", "<0.0>", "<1.4611686018427387904>", "<4611686018427387904.1>", "<18446744073709551616.1>", "<0.18446744073709551617>", "<-1.1>", "<1.-1>", "<+1.1>", "<01.1>", "<1.01>", "<00.1>", "<0.00>",
		"<>", "<.>", "<1>", "<1.>", "<.1>", "<1.1", "<1.", "<1", "<", "<1,1>", "<1.1.1>", "< 1.1>", "<1 .1>", "<1. 1>", "<1.1 >", "<a.1>", "<1.a>", "<1.1}", "<<1.1>>", ">", ">1.1<", "<1..1>", "<1+1i.1>",
		"#", "#0", "#00", "#01", "#-1", "#+1", "#a", "# 1", "##1", "#4611686018427387904", "#9223372036854775807", "#18446744073709551617", "#.1",
	} {
		wantParse(t, s, api.Term{}, api.ErrText, 0)
		wantParse(t, "{1, "+s+"}", api.Term{}, api.ErrText, 4)
		wantHead(t, s, api.Term{}, 0, api.ErrText)
	}
	for s, place := range map[string]int{"<1.1>>": 5, "<1.1>1": 5, "<1.1><1.1>": 5, "#1#2": 2, "#1.": 2, "#1a": 2, "#1+1i": 2, "#1 2": 3, "#1-2": 2} {
		wantParse(t, s, api.Term{}, api.ErrText, place)
	}
}

func TestP42TokensThatCanNotStandThere(t *testing.T) {
	for s, place := range map[string]int{
		"{a, }": 4, "[a, ]": 4, "{,}": 1, "{,a}": 1, "[,]": 1, ",": 0, " ,": 1, "}": 0, "]": 0, "{]": 1, "[}": 1, "{a]": 2, "[a}": 2, "[{]": 2, "[{]}": 2, "{[}": 2, "{[}]": 2, "[[]}": 3, "{{}]": 3,
		"{a,,b}": 3, "{a, ,b}": 4, "{a b}": 3, "[1 2]": 3, "{a{}}": 2, "{{}a}": 3, "[[][]]": 3, "{1{": 2, "{{}{": 3, "{}{": 2, "a{": 1, "1[": 1, "[a],": 3, "[a]]": 3, "{{a}}}": 5, "{}}": 2,
		"a b": 2, "a,b": 1, "a,": 1, "{} {}": 3, "{}nil": 2, "1 1": 2, "nil,": 3, "[] ]": 3, "{a}, {b}": 3, "a ?": 2, "a \xff": 2, "{a ?}": 3, "{?}": 1, "{a, ?}": 4, "{ ?": 2,
		"[1,2,3": 6, "{a} -> 3": 4, "1_": 1, "{a, 007": 4, "{a 007": 3,
	} {
		wantParse(t, s, api.Term{}, api.ErrText, place)
	}
}

func TestP42TextsThatEndTooEarly(t *testing.T) {
	for _, s := range []string{"", " ", "\t\r\n ", "{", "[", "{ ", "{a", "{a ", "{a,", "{a, ", "[[", "[[]", "[[],", "[[], ", "{ab, [1, {", "{ab, [1, {}", "{ab, [1, {}]", "{ab, [1, {}],\n"} {
		wantParse(t, s, api.Term{}, api.ErrText, len(s))
		wantHead(t, s, api.Term{}, 0, api.ErrText)
	}
}

func TestP42LongTexts(t *testing.T) {
	for _, s := range []string{"7", "{a, b}", "#1"} {
		x, _, _ := text.Parse(s)
		for _, long := range []string{s + strings.Repeat(" ", api.MaxText-len(s)), strings.Repeat("\n", api.MaxText-len(s)) + s} {
			wantParse(t, long, x, api.OK, 0)
			wantParse(t, long+" ", api.Term{}, api.ErrLong, 0)
			wantParse(t, " "+long, api.Term{}, api.ErrLong, 0)
			wantHead(t, long+" ", api.Term{}, 0, api.ErrLong)
		}
	}
	for s, place := range map[string]int{" ": api.MaxText, "[": api.MaxText, "a": 0, "1": 0, "?": 0, "{a,": 3 * (api.MaxText / 3), "#": 0, "<": 0, "-": 0, "1-": 1, "]": 0, "[1,": 3 * (api.MaxText / 3)} {
		long := strings.Repeat(s, api.MaxText/len(s))
		wantParse(t, long, api.Term{}, api.ErrText, place)
		longer := strings.Repeat(s, api.MaxText/len(s)+1)
		wantParse(t, longer, api.Term{}, api.ErrLong, 0)
		wantParse(t, strings.Repeat(longer, 5), api.Term{}, api.ErrLong, 0)
	}
	wantParse(t, "1-"+strings.Repeat("1", api.MaxText-2), api.Term{}, api.ErrText, 1)
	wantParse(t, "1-"+strings.Repeat("1", api.MaxText-3)+"i", api.Term{}, api.ErrText, 0)
	wantParse(t, "<"+strings.Repeat("1", api.MaxText-4)+".1>", api.Term{}, api.ErrText, 0)
}

func TestP42Bounds(t *testing.T) {
	half := api.MaxText / 2
	for s, e := range map[string]api.Errno{
		wideText(1024): api.OK, wideText(1025): api.ErrParts, wideText(1026): api.ErrParts, wideText(80000): api.ErrParts,
		deepText(63, "1"): api.OK, deepText(63, ""): api.OK, deepText(64, ""): api.OK, deepText(64, "1"): api.ErrParts, deepText(65, ""): api.ErrParts, deepText(1000, "a"): api.ErrParts, deepText(half, ""): api.ErrParts,
		"{" + wideText(1023) + "}": api.OK, "{" + wideText(1024) + "}": api.ErrParts, "{" + wideText(512) + "," + wideText(511) + "}": api.OK, "{" + wideText(512) + "," + wideText(512) + "}": api.ErrParts,
		"{1, " + deepText(62, "1") + "}": api.OK, "{1, " + deepText(63, "1") + ", 2}": api.ErrParts, "{" + deepText(63, "") + "}": api.OK, "{" + deepText(64, "") + "}": api.ErrParts,
	} {
		x, f, at := text.Parse(s)
		if f != e || at != 0 || (e == api.OK) != (x.Kind != 0) || e != api.OK && !same(x, api.Term{}) {
			t.Errorf("Parse(%q): %d, %d, not %d", short(s), f, at, e)
		}
		y, end, f := text.Head(s + " x")
		if len(s)+2 > api.MaxText {
			e = api.ErrLong
		}
		if f != e || (e == api.OK) != (end == len(s)) || e != api.OK && end != 0 || !same(x, y) {
			t.Errorf("Head(%q ..): %d, %d, not %d", short(s), end, f, e)
		}
	}
}

// A place that is wrong is told even of a term with too many parts, and a text that is too long tells nothing else.
func TestP42WhichErrorOfTwo(t *testing.T) {
	wide, deep := wideText(1025), deepText(64, "1")
	half := api.MaxText / 2
	for s, place := range map[string]int{
		wide + "x": len(wide), wide + " ]": len(wide) + 1, wide[:len(wide)-1]: len(wide) - 1, wide[:len(wide)-1] + "}": len(wide) - 1, wide[:len(wide)-1] + ", 007]": len(wide) + 1, "{007, " + wide + "}": 1,
		deep + "]": len(deep), deep[:len(deep)-1]: len(deep) - 1, deep[:len(deep)-1] + "}": len(deep) - 1, strings.Repeat("[", 65) + "Z": 65, strings.Repeat("[", 100): 100,
		strings.Repeat("[", half) + strings.Repeat("]", half-1) + "}": api.MaxText - 1, strings.Repeat("[", half) + strings.Repeat("]", half-1): api.MaxText - 1,
		strings.Repeat("{", half) + strings.Repeat("]", half): half,
	} {
		wantParse(t, s, api.Term{}, api.ErrText, place)
	}
	wantParse(t, "??"+strings.Repeat(" ", api.MaxText), api.Term{}, api.ErrLong, 0)
	wantParse(t, wide+strings.Repeat(" ", api.MaxText), api.Term{}, api.ErrLong, 0)
	wantParse(t, strings.Repeat("[", half+1)+strings.Repeat("]", half), api.Term{}, api.ErrLong, 0)
	wantHead(t, wide[:len(wide)-1], api.Term{}, 0, api.ErrText)
	wantHead(t, wide[:len(wide)-1]+"}", api.Term{}, 0, api.ErrText)
	wantHead(t, deep[:len(deep)-1], api.Term{}, 0, api.ErrText)
	wantHead(t, "??"+strings.Repeat(" ", api.MaxText), api.Term{}, 0, api.ErrLong)
	wantHead(t, wide+strings.Repeat(" ", api.MaxText), api.Term{}, 0, api.ErrLong)
	wantHead(t, "a"+strings.Repeat(" ", api.MaxText), api.Term{}, 0, api.ErrLong)
}
