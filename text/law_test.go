package text_test

import (
	"strings"
	"testing"

	"carousel/api"
	"carousel/term"
	"carousel/text"
)

// terms are the samples' terms, and others that are made of them.
func terms() []api.Term {
	var l, small []api.Term
	for _, x := range samples() {
		l = append(l, x.t)
		if len(x.s) < 100 {
			small = append(small, x.t)
		}
	}
	l = append(l, tuple(small...), list(small...), tuple(list(small...), tuple(small...)), list(list(list(small...))))
	for i, a := range small {
		l = append(l, tuple(a), list(a), list(a, a), tuple(a, list(a)))
		l = append(l, tuple(a, small[(i+1)%len(small)]), list(a, small[(i+7)%len(small)], tuple()))
	}
	return l
}

func mustPrint(t *testing.T, x api.Term) string {
	t.Helper()
	s, e := text.Print(x)
	if e != api.OK {
		t.Fatalf("Print(%v): %d", x, e)
	}
	return s
}

func TestP44ThereAndBack(t *testing.T) {
	for _, x := range terms() {
		wantParse(t, mustPrint(t, x), x, api.OK, 0)
	}
}

func TestP44BackAndThere(t *testing.T) {
	count := 0
	try := func(s string) {
		x, e, _ := text.Parse(s)
		if e != api.OK {
			return
		}
		count++
		if f := term.Check(x); f != api.OK {
			t.Fatalf("Parse(%q) may not be: %d", short(s), f)
		}
		wantParse(t, mustPrint(t, x), x, api.OK, 0)
	}
	strung(strings.Split("{}[],a01-+i ", ""), 5, try)
	for _, x := range terms() {
		try(strings.ReplaceAll(mustPrint(t, x), ",", " ,\n"))
		try(strings.ReplaceAll(mustPrint(t, x), ", ", ","))
	}
	if count < 1000 {
		t.Error("too few texts were read:", count)
	}
}

func TestP44UnlikeTermsHaveUnlikeTexts(t *testing.T) {
	l := terms()
	texts := map[string][]api.Term{}
	for _, x := range l {
		s := mustPrint(t, x)
		for _, y := range texts[s] {
			if !same(x, y) {
				t.Errorf("%v and %v have one text: %q", x, y, s)
			}
		}
		texts[s] = append(texts[s], x)
	}
	if len(texts) < len(l)/2 {
		t.Error("too few unlike terms:", len(texts), len(l))
	}
}

// spread is a text with blanks about each of its tokens.
func spread(s, blanks string) string {
	var b strings.Builder
	b.WriteString(blanks)
	for _, p := range pieces(s) {
		b.WriteString(p.s)
		b.WriteString(blanks)
	}
	return b.String()
}

func TestP45MoreBlanks(t *testing.T) {
	for _, x := range terms() {
		s := mustPrint(t, x)
		for _, blanks := range []string{" ", "\t", "\n", "\r", "  \t\r\n ", strings.Repeat("\n", 50)} {
			wantParse(t, spread(s, blanks), x, api.OK, 0)
		}
		tight := strings.ReplaceAll(s, " ", "")
		wantParse(t, tight, x, api.OK, 0)
		wantParse(t, tight+"\n", x, api.OK, 0)
	}
}

// More blanks move the place that is wrong, and no more.
func TestP45MoreBlanksInWrongTexts(t *testing.T) {
	for _, s := range []string{"{a, }", "{a", "a b", "007", "3-0i", "Ab", "<1.0>", "#0", "1_", "3 -2i", "", "{a]", "[1,, 2]", "{} {}", "[a, 3+x]"} {
		_, e, at := text.Parse(s)
		for _, blanks := range []string{" ", "\t\n\r "} {
			wide := spread(s, blanks)
			want := len(wide)
			for i, p := range pieces(s) {
				if p.at == at {
					want = pieces(wide)[i].at
				}
			}
			wantParse(t, wide, api.Term{}, e, want)
		}
	}
}

// Within a token no blank may stand.
func TestP45BlanksWithinTokens(t *testing.T) {
	for s, place := range map[string]int{"1 2": 2, "a b": 2, "- 1": 0, "3 +4i": 2, "3+ 4i": 1, "3+4 i": 1, "< 1.1>": 0, "<1 .1>": 0, "<1. 1>": 0, "<1.1 >": 0, "# 1": 0, "n il": 2} {
		for _, blank := range []string{" ", "\t", "\n", "\r"} {
			wantParse(t, strings.ReplaceAll(s, " ", blank), api.Term{}, api.ErrText, place)
		}
	}
}

func TestP46HeadOfATermWithMoreBehind(t *testing.T) {
	for _, x := range terms() {
		s := mustPrint(t, x)
		for _, sign := range []string{" ", "\t", "\n", "\r", ",", "}", "]"} {
			for _, more := range []string{"", "a", "007", " -> 3", "+4i", ".", "\xff", "é", "{", "?", s} {
				wantHead(t, s+sign+more, x, len(s), api.OK)
			}
		}
	}
}

func TestP46ParseTakesWhatHeadTakesAll(t *testing.T) {
	strung(strings.Split("{}[],a1-+i \n", ""), 5, func(s string) {
		x, e, _ := text.Parse(s)
		y, end, f := text.Head(s)
		whole := f == api.OK && strings.Trim(s[end:], " \t\n\r") == ""
		if (e == api.OK) != whole || whole && !same(x, y) {
			t.Errorf("%q: Parse %v, %d; Head %v, %d, %d", s, x, e, y, end, f)
		}
	})
}

// lists are all lists within a term, its own ahead.
func lists(x api.Term) [][]api.Term {
	var l [][]api.Term
	if len(x.L) > 0 {
		l = append(l, x.L)
	}
	for _, y := range x.L {
		l = append(l, lists(y)...)
	}
	return l
}

// What is done to one answer, its spare room too, nothing else is told of: no other list of it, and no other answer.
func TestR3AnswersShareNothing(t *testing.T) {
	for _, x := range terms() {
		s := mustPrint(t, x)
		a, _, _ := text.Parse(s)
		b, _, _ := text.Head(s)
		for _, l := range lists(a) {
			room := l[len(l):cap(l)]
			for i := range room {
				if !same(room[i], api.Term{}) {
					t.Errorf("Parse(%q): something stands behind a list's end", short(s))
				}
				room[i] = atom("spare")
			}
		}
		if !same(a, x) {
			t.Errorf("Parse(%q): lists share their room", short(s))
		}
		for _, l := range lists(a) {
			clear(l)
		}
		if !same(b, x) {
			t.Errorf("Head(%q) shares a list with what Parse answered", short(s))
		}
		wantParse(t, s, x, api.OK, 0)
	}
}

// What a call answers does not hang on the calls ahead of it.
func TestR4CallsKnowNothingOfOneAnother(t *testing.T) {
	for _, s := range []string{"{a, [1, 2", "[[[[", "{a, }", "3+4i", "", strings.Repeat("[", 1000), wideText(1025)} {
		for range 3 {
			text.Parse(s)
			text.Head(s)
			wantParse(t, "{a, [1, 2]}", tuple(atom("a"), list(in(1), in(2))), api.OK, 0)
			wantParse(t, "]", api.Term{}, api.ErrText, 0)
			wantHead(t, "#7}", ref(7), 2, api.OK)
		}
	}
}
