package text_test

import (
	"math/big"
	"regexp"
	"slices"
	"strings"
	"testing"

	"carousel/api"
)

// The model reads as the document says it, by patterns of bytes and by calls that call themselves, to hold the package against.

const digits = `(?:0|-?[1-9][0-9]*)`

var (
	tokenForm   = regexp.MustCompile(`^(?:[a-z][a-zA-Z0-9_]*|-?[0-9]+(?:[+-][0-9]+i)?|<[0-9]+\.[0-9]+>|#[0-9]+)`)
	wordForm    = regexp.MustCompile(`^[a-z][a-zA-Z0-9_]{0,63}$`)
	intForm     = regexp.MustCompile(`^(` + digits + `)$`)
	complexForm = regexp.MustCompile(`^(` + digits + `)([+-])(0|[1-9][0-9]*)i$`)
	pidForm     = regexp.MustCompile(`^<(` + digits + `)\.(` + digits + `)>$`)
	refForm     = regexp.MustCompile(`^#(` + digits + `)$`)
)

type piece struct {
	at int
	s  string
}

func pieces(s string) []piece {
	var l []piece
	for at := 0; at < len(s); {
		if strings.IndexByte(" \t\n\r", s[at]) >= 0 {
			at++
			continue
		}
		token := tokenForm.FindString(s[at:])
		if token == "" {
			token = s[at : at+1]
		}
		l = append(l, piece{at, token})
		at += len(token)
	}
	return l
}

// from is digits as an int from least to most.
func from(s string, least, most int) (int, bool) {
	n, ok := new(big.Int).SetString(s, 10)
	if !ok || n.Cmp(big.NewInt(int64(least))) < 0 || n.Cmp(big.NewInt(int64(most))) > 0 {
		return 0, false
	}
	return int(n.Int64()), true
}

// single is the term of a token that is one by itself.
func single(s string) (api.Term, bool) {
	if m := intForm.FindStringSubmatch(s); m != nil {
		n, ok := from(m[1], api.MinInt, api.MaxInt)
		return in(n), ok
	}
	if m := complexForm.FindStringSubmatch(s); m != nil && m[2]+m[3] != "-0" {
		re, ok := from(m[1], -part, part)
		im, both := from(strings.TrimPrefix(m[2], "+")+m[3], -part, part)
		return num(re, im), ok && both
	}
	if m := pidForm.FindStringSubmatch(s); m != nil {
		n, ok := from(m[1], 0, api.MaxActors-1)
		gen, both := from(m[2], 1, api.MaxInt)
		return pid(n, gen), ok && both
	}
	if m := refForm.FindStringSubmatch(s); m != nil {
		n, ok := from(m[1], 1, api.MaxInt)
		return ref(n), ok
	}
	switch s {
	case "nil":
		return null(), true
	case "true", "false":
		return truth(s == "true"), true
	}
	return atom(s), wordForm.MatchString(s)
}

// model goes through pieces; a place that is wrong ends it.
type model struct {
	l   []piece
	end int
}

type fault int

func (m *model) next() string {
	if len(m.l) == 0 {
		return ""
	}
	return m.l[0].s
}

func (m *model) fail() {
	if len(m.l) == 0 {
		panic(fault(m.end))
	}
	panic(fault(m.l[0].at))
}

func (m *model) term() api.Term {
	switch m.next() {
	case "{":
		return tuple(m.terms("}")...)
	case "[":
		return list(m.terms("]")...)
	}
	x, ok := single(m.next())
	if !ok {
		m.fail()
	}
	m.l = m.l[1:]
	return x
}

func (m *model) terms(last string) []api.Term {
	var l []api.Term
	m.l = m.l[1:]
	for m.next() != last {
		if l != nil {
			if m.next() != "," {
				m.fail()
			}
			m.l = m.l[1:]
		}
		l = append(l, m.term())
	}
	m.l = m.l[1:]
	return l
}

// readAll is a text's term, or the place that is wrong.
func readAll(s string) (x api.Term, at int, wrong bool) {
	m := model{pieces(s), len(s)}
	defer recovered(&x, &at, &wrong)
	x = m.term()
	if len(m.l) > 0 {
		m.fail()
	}
	return x, 0, false
}

// readFirst is the term that a text begins with, and where it ends.
func readFirst(s string) (x api.Term, at int, wrong bool) {
	all := pieces(s)
	m := model{all, len(s)}
	defer recovered(&x, &at, &wrong)
	x = m.term()
	last := all[len(all)-len(m.l)-1]
	return x, last.at + len(last.s), false
}

func recovered(x *api.Term, at *int, wrong *bool) {
	if f, ok := recover().(fault); ok {
		*x, *at, *wrong = api.Term{}, int(f), true
	}
}

// held holds a text of few parts against the model.
func held(t *testing.T, s string) {
	t.Helper()
	x, at, wrong := readAll(s)
	e := api.OK
	if wrong {
		e = api.ErrText
	}
	wantParse(t, s, x, e, at)
	y, end, wrong := readFirst(s)
	e = api.OK
	if wrong {
		end, e = 0, api.ErrText
	}
	wantHead(t, s, y, end, e)
}

// strung calls do with all texts of at most so many of the given pieces.
func strung(l []string, most int, do func(string)) {
	var add func(s string, left int)
	add = func(s string, left int) {
		do(s)
		if left == 0 {
			return
		}
		for _, p := range l {
			add(s+p, left-1)
		}
	}
	add("", most)
}

func TestP42P43AllShortTexts(t *testing.T) {
	for _, x := range []struct {
		l    string
		most int
	}{
		{"{}[],aZ01-+i<.># _?\n\xff", 3},
		{"01-+i ", 6},
		{"{}[], a", 5},
		{"<>.01- ", 5},
		{"#01-a ", 5},
		{"aZ0_- ", 5},
	} {
		strung(strings.Split(x.l, ""), x.most, func(s string) { held(t, s) })
	}
}

func TestP42P43AllShortRowsOfTokens(t *testing.T) {
	strung([]string{"{", "}", "[", "]", ",", " ", "a", "nil", "-7", "3+4i", "3-0i", "<1.2>", "#9", "007", "é"}, 4, func(s string) { held(t, s) })
}

// Each sample with a byte changed, left out or put in: most of these texts are wrong at some place far from the beginning.
func TestP42P43ChangedTexts(t *testing.T) {
	for _, x := range samples() {
		if len(x.s) > 100 {
			continue
		}
		for i := range x.s {
			held(t, x.s[:i])
			held(t, x.s[i:])
			held(t, x.s[:i]+x.s[i+1:])
			for _, b := range strings.Split("{}[],aZ09-+i<.># _?\t\x00\xc3", "") {
				held(t, x.s[:i]+b+x.s[i:])
				held(t, x.s[:i]+b+x.s[i+1:])
			}
		}
	}
}

func TestModelReadsSamples(t *testing.T) {
	for _, x := range samples() {
		y, at, wrong := readAll(x.s)
		if !same(x.t, y) || at != 0 || wrong {
			t.Errorf("the model reads %q as %v, %d", short(x.s), y, at)
		}
	}
	if l := pieces(" {ab, 3+4i}1_ "); !slices.Equal(l, []piece{{1, "{"}, {2, "ab"}, {4, ","}, {6, "3+4i"}, {10, "}"}, {11, "1"}, {12, "_"}}) {
		t.Error("the model's pieces:", l)
	}
}
