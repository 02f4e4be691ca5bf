package text_test

import (
	"strings"
	"testing"

	"carousel/api"
)

func TestP43Head(t *testing.T) {
	for _, x := range samples() {
		wantHead(t, x.s, x.t, len(x.s), api.OK)
		wantHead(t, " \n"+x.s, x.t, 2+len(x.s), api.OK)
		wantHead(t, x.s+" \t\r\n", x.t, len(x.s), api.OK)
	}
	for s, end := range map[string]int{" {a} -> 3": 4, "{a} ? b": 3, " { a , b } ]": 10, "[[1], 2]]]": 8, "{}{}": 2, "[]a": 2, "nil nil": 3, "{a}": 3} {
		wantHead(t, s, headOf(t, s, end), end, api.OK)
	}
}

// headOf is what the first bytes of a text are read as.
func headOf(t *testing.T, s string, end int) api.Term {
	t.Helper()
	x, at, fault := readAll(s[:end])
	if fault || at != 0 {
		t.Fatalf("%q is no term", s[:end])
	}
	return x
}

// What stands right behind the term counts only if it is part of the last token.
func TestP43WhatStandsBehind(t *testing.T) {
	for s, end := range map[string]int{
		"ab,c": 2, "ab}": 2, "ab]": 2, "ab c": 2, "ab-c": 2, "ab.": 2, "ab?": 2, "ab\xff": 2, "abé": 2, "ab\x00": 2, "ab{": 2, "ab#1": 2, "ab+1": 2, "ab$0": 2, "ab|": 2,
		"3+x": 1, "3+": 1, "3-": 1, "3+4": 1, "3-4": 1, "3+4x": 1, "3 +4i": 1, "3+ 4i": 1, "3+i": 1, "3-i": 1, "3+é": 1, "3+4é": 1, "3i": 1, "3a": 1, "3_": 1, "3.": 1, "3é": 1, "3\xff": 1, "3{": 1, "3<": 1, "0x": 1, "0-0": 1, "3-00": 1, "-3-": 2, "-3+4": 2, "-3+4,i": 2, "10+20": 2,
		"3+4ix": 4, "3+4i5": 4, "3+4i+5i": 4, "3+4ii": 4, "3+4iA": 4, "3+4i é": 4, "3-4i-": 4,
		"<1.1>>": 5, "<1.1>1": 5, "<1.1>a": 5, "<1.1>.": 5, "#1#": 2, "#1.": 2, "#12a": 3, "#1-": 2, "#1+1i": 2,
		"nil_": 4, "nil,": 3, "nil-": 3, "nila": 4, "true}": 4, "trueA": 5, "false9": 6, "false?": 5,
		"{a}b": 3, "{a}}": 3, "{a},": 3, "{a}\xff": 3, "{a}é": 3, "[1]+4i": 3, "{}0": 2, "[1+1i]i": 6,
	} {
		wantHead(t, s, headOf(t, s, end), end, api.OK)
	}
	for _, x := range []struct {
		s    string
		want api.Term
		end  int
	}{
		{"3+4i", num(3, 4), 4}, {"3+4ix", num(3, 4), 4}, {"3+4", in(3), 1}, {"3-4 i", in(3), 1},
		{"nil", null(), 3}, {"nil A", null(), 3}, {"nilA", atom("nilA"), 4}, {"nil_ ", atom("nil_"), 4},
		{"12", in(12), 2}, {"1 2", in(1), 1}, {"#12", ref(12), 3}, {"#1 2", ref(1), 2}, {"<1.12>", pid(1, 12), 6}, {"<1.1>2", pid(1, 1), 5},
	} {
		wantHead(t, x.s, x.want, x.end, api.OK)
	}
}

// What is part of the last token can spoil it, and with it the term.
func TestP43Refused(t *testing.T) {
	for _, s := range []string{
		"", " ", ",", "}", "]", " ,a", "?", "\xff", "é", "A", "Ab", "_a", "-", "- 1", "+5", "-0", "-a", "00", "007", "0123 ", "3-0i", "3+04i", "3-0ix", "03+4i", "4611686018427387904", "4611686018427387904 a", "1073741825+1i", "1+1073741825i,",
		"<", "<1", "<1.", "<1.1", "<1.1 >", "<1.0>", "<256.1>", "<1.01>", "#", "#0", "#01", "# 1", strings.Repeat("a", 65), strings.Repeat("a", 65) + " ", strings.Repeat("a", 64) + "_,", "1" + strings.Repeat("0", 20),
		"{", "{a", "{a,", "{a, }", "{a]", "{,", "{a b}", "{a, 007}", "[Z]", "[1, [2, [3]]", "[a,, b] c", "[-]", "{?", "{a;}",
	} {
		wantHead(t, s, api.Term{}, 0, api.ErrText)
	}
	wantHead(t, strings.Repeat("a", 64)+",", atom(strings.Repeat("a", 64)), 64, api.OK)
	wantHead(t, "1073741825+1073741825", in(1073741825), 10, api.OK)
	wantHead(t, wideText(1025), api.Term{}, 0, api.ErrParts)
	wantHead(t, wideText(1025)+"?", api.Term{}, 0, api.ErrParts)
	wantHead(t, deepText(64, "1")+"]]}", api.Term{}, 0, api.ErrParts)
	wantHead(t, deepText(63, "1")+"]]}", deep(63, in(1)), 127, api.OK)
	wantHead(t, wideText(1024)+wideText(1025), wide(1024), len(wideText(1024)), api.OK)
}

func TestP43LongTexts(t *testing.T) {
	for _, behind := range []string{" ", "?", "\xff", "[", "b ", "007 "} {
		long := "{a}" + strings.Repeat(behind, api.MaxText)
		wantHead(t, long[:api.MaxText], tuple(atom("a")), 3, api.OK)
		wantHead(t, long[:api.MaxText+1], api.Term{}, 0, api.ErrLong)
		wantHead(t, long, api.Term{}, 0, api.ErrLong)
	}
	wantHead(t, "1-"+strings.Repeat("1", api.MaxText-2), in(1), 1, api.OK)
	wantHead(t, strings.Repeat("a", api.MaxText), api.Term{}, 0, api.ErrText)
	wantHead(t, strings.Repeat(" ", api.MaxText), api.Term{}, 0, api.ErrText)
	wantHead(t, strings.Repeat("{", api.MaxText), api.Term{}, 0, api.ErrText)
	wantHead(t, strings.Repeat(" ", api.MaxText-1)+"a", atom("a"), api.MaxText, api.OK)
}
