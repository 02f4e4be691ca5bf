package pattern_test

import (
	"regexp"
	"slices"
	"strconv"
	"strings"
	"testing"

	"carousel/api"
	"carousel/text"
)

// The model reads as the document says it, by forms of tokens and by calls that call themselves, to hold the package against. Terms are read by layer 4.

var (
	tokenForm = regexp.MustCompile(`^(?:[a-z][a-zA-Z0-9_]*|-?[0-9]+(?:[+-][0-9]+i)?|<[0-9]+\.[0-9]+>|#[0-9]+|\$[0-9]+|:[a-z][a-zA-Z0-9_]*)`)
	localForm = regexp.MustCompile(`^\$(?:[0-9]|[12][0-9]|3[01])$`)
	kindForm  = regexp.MustCompile(`^:(?:nil|bool|int|complex|atom|pid|ref|tuple|list)$`)
)

type piece struct {
	at int
	s  string
}

func pieces(s string) []piece {
	var l []piece
	for at := 0; at < len(s); {
		if strings.IndexByte(" \t\n\r", s[at]) >= 0 {
			at++
			continue
		}
		token := tokenForm.FindString(s[at:])
		if token == "" {
			token = s[at : at+1]
		}
		l = append(l, piece{at, token})
		at += len(token)
	}
	return l
}

// single is the pattern of a token that is one by itself.
func single(s string) (api.Pattern, bool) {
	switch {
	case s == "_":
		return whatever(), true
	case localForm.MatchString(s):
		n, err := strconv.Atoi(s[1:])
		return local(n), err == nil
	case kindForm.MatchString(s):
		kinds := []string{":nil", ":bool", ":int", ":complex", ":atom", ":pid", ":ref", ":tuple", ":list"}
		return some(slices.Index(kinds, s) + 1), true
	}
	x, e, _ := text.Parse(s)
	return just(x), e == api.OK
}

// model goes through pieces; a place that is wrong ends it.
type model struct {
	l   []piece
	end int
}

type fault int

func (m *model) next() string {
	if len(m.l) == 0 {
		return ""
	}
	return m.l[0].s
}

func (m *model) need(ok bool) {
	if ok {
		return
	}
	if len(m.l) == 0 {
		panic(fault(m.end))
	}
	panic(fault(m.l[0].at))
}

func (m *model) drop() { m.l = m.l[1:] }

func (m *model) pattern() api.Pattern {
	switch m.next() {
	case "{":
		m.drop()
		p := tup(m.row("}", "}")...)
		m.drop()
		return p
	case "[":
		m.drop()
		p := lst(m.row("]", "|")...)
		if m.next() == "|" {
			m.drop()
			p.Rest = append(p.Rest, m.pattern())
		}
		m.need(m.next() == "]")
		m.drop()
		return p
	}
	p, ok := single(m.next())
	m.need(ok)
	m.drop()
	return p
}

// row are patterns with commas between, or none, up to one of two signs.
func (m *model) row(end, other string) []api.Pattern {
	ended := func() bool { return m.next() == end || m.next() == other }
	if ended() {
		return nil
	}
	l := []api.Pattern{m.pattern()}
	for !ended() {
		m.need(m.next() == ",")
		m.drop()
		l = append(l, m.pattern())
	}
	return l
}

func readAll(s string) (p api.Pattern, e api.Errno, at int) {
	m := model{pieces(s), len(s)}
	defer func() {
		if f, ok := recover().(fault); ok {
			p, e, at = api.Pattern{}, api.ErrPattern, int(f)
		}
	}()
	p = m.pattern()
	m.need(len(m.l) == 0)
	if e := modelCheck(p, 32); e != api.OK {
		return api.Pattern{}, e, 0
	}
	return p, api.OK, 0
}

// held holds a text against the model.
func held(t *testing.T, s string) {
	t.Helper()
	p, e, at := readAll(s)
	wantParse(t, s, p, e, at)
}

// strung calls do with all texts of at most so many of the given pieces.
func strung(l []string, most int, do func(string)) {
	var add func(s string, left int)
	add = func(s string, left int) {
		do(s)
		if left == 0 {
			return
		}
		for _, p := range l {
			add(s+p, left-1)
		}
	}
	add("", most)
}

func TestPa3AllShortTexts(t *testing.T) {
	for _, x := range []struct {
		l    string
		most int
	}{
		{"{}[],|_$:a01 \xff", 4},
		{"[]|,_ ", 6},
		{"[]|,_", 7},
		{"{}[]|_", 5},
		{"$0123- ", 5},
		{":intA_0 ", 5},
		{"_aA0$: ", 5},
	} {
		strung(strings.Split(x.l, ""), x.most, func(s string) { held(t, s) })
	}
}

func TestPa3AllShortRowsOfTokens(t *testing.T) {
	strung([]string{"{", "}", "[", "]", ",", "|", " ", "_", "$0", "$1", "$32", ":int", ":foo", "a", "-7", "3+4i", "é"}, 4, func(s string) { held(t, s) })
	strung([]string{"{", "}", "[", "]", ",", "|", "$0"}, 6, func(s string) { held(t, s) })
}

// Each sample with a byte changed, left out or put in: most of these texts are wrong at some place far from the beginning.
func TestPa3ChangedTexts(t *testing.T) {
	for _, x := range samples() {
		if len(x.s) > 60 {
			continue
		}
		for i := range x.s {
			held(t, x.s[:i])
			held(t, x.s[i:])
			held(t, x.s[:i]+x.s[i+1:])
			for _, b := range strings.Split("{}[],|_$:aZ09-+<.> \t\xc3", "") {
				held(t, x.s[:i]+b+x.s[i:])
				held(t, x.s[:i]+b+x.s[i+1:])
			}
		}
	}
}

func TestModelReadsSamples(t *testing.T) {
	for _, x := range samples() {
		p, e, at := readAll(x.s)
		if !same(p, x.p) || e != api.OK || at != 0 {
			t.Errorf("the model reads %q as %s, %d, %d", short(x.s), show(p), e, at)
		}
	}
	if l := pieces(" {ab|$10_:intx:0$}"); !slices.Equal(l, []piece{{1, "{"}, {2, "ab"}, {4, "|"}, {5, "$10"}, {8, "_"}, {9, ":intx"}, {14, ":"}, {15, "0"}, {16, "$"}, {17, "}"}}) {
		t.Error("the model's pieces:", l)
	}
}
