package text_test

import (
	"math"
	"slices"
	"strings"
	"testing"

	"carousel/api"
	"carousel/text"
)

const (
	least = -1 << 63
	most  = 1<<63 - 1
	part  = api.MaxPart
)

func null() api.Term { return api.Term{Kind: api.KindNil} }

func truth(is bool) api.Term {
	if is {
		return api.Term{Kind: api.KindBool, N: 1}
	}
	return api.Term{Kind: api.KindBool}
}

func in(n int) api.Term { return api.Term{Kind: api.KindInt, N: n} }

func num(re, im int) api.Term {
	return api.Term{Kind: api.KindComplex, C: complex(float64(re), float64(im))}
}

func atom(s string) api.Term { return api.Term{Kind: api.KindAtom, S: s} }

func pid(n, gen int) api.Term { return api.Term{Kind: api.KindPid, P: api.Pid{N: n, Gen: gen}} }

func ref(n int) api.Term { return api.Term{Kind: api.KindRef, N: n} }

func tuple(l ...api.Term) api.Term { return api.Term{Kind: api.KindTuple, L: l} }

func list(l ...api.Term) api.Term { return api.Term{Kind: api.KindList, L: l} }

// wide is a list of that many parts, all but itself noughts.
func wide(parts int) api.Term { return list(slices.Repeat([]api.Term{in(0)}, parts-1)...) }

// wideText is the text of a wide list.
func wideText(parts int) string {
	return "[" + strings.Join(slices.Repeat([]string{"0"}, parts-1), ", ") + "]"
}

// deep is a term within so many lists.
func deep(within int, t api.Term) api.Term {
	for range within {
		t = list(t)
	}
	return t
}

// deepText is the text of a term within so many lists.
func deepText(within int, s string) string {
	return strings.Repeat("[", within) + s + strings.Repeat("]", within)
}

// endless is a list that holds itself.
func endless(kind int) api.Term {
	l := make([]api.Term, 1)
	l[0] = api.Term{Kind: kind, L: l}
	return l[0]
}

// sample is a term, and its text.
type sample struct {
	t api.Term
	s string
}

// samples are terms that may be, all unlike, and their texts.
func samples() []sample {
	long := "z" + strings.Repeat("Q", 63)
	return []sample{
		{null(), "nil"}, {truth(false), "false"}, {truth(true), "true"},
		{in(0), "0"}, {in(1), "1"}, {in(-1), "-1"}, {in(7), "7"}, {in(10), "10"}, {in(-907), "-907"},
		{in(api.MaxInt), "4611686018427387903"}, {in(api.MinInt), "-4611686018427387903"}, {in(part + 1), "1073741825"},
		{num(0, 0), "0+0i"}, {num(3, 0), "3+0i"}, {num(0, 4), "0+4i"}, {num(3, 4), "3+4i"}, {num(3, -2), "3-2i"}, {num(-5, -10), "-5-10i"}, {num(-5, 0), "-5+0i"}, {num(0, -1), "0-1i"}, {num(-1, 1), "-1+1i"},
		{num(part, part), "1073741824+1073741824i"}, {num(-part, -part), "-1073741824-1073741824i"}, {num(-part, part), "-1073741824+1073741824i"},
		{atom("a"), "a"}, {atom("z"), "z"}, {atom("aZ_09"), "aZ_09"}, {atom("nill"), "nill"}, {atom("nI"), "nI"}, {atom("true1"), "true1"}, {atom("false_"), "false_"}, {atom("i"), "i"}, {atom(long), long},
		{pid(0, 1), "<0.1>"}, {pid(3, 1), "<3.1>"}, {pid(255, api.MaxInt), "<255.4611686018427387903>"}, {pid(10, 20), "<10.20>"}, {pid(1, 1), "<1.1>"}, {pid(1, 11), "<1.11>"}, {pid(11, 1), "<11.1>"},
		{ref(1), "#1"}, {ref(7), "#7"}, {ref(10), "#10"}, {ref(api.MaxInt), "#4611686018427387903"},
		{tuple(), "{}"}, {list(), "[]"}, {tuple(null()), "{nil}"}, {list(null()), "[nil]"}, {tuple(in(1), in(2)), "{1, 2}"}, {list(in(1), in(2)), "[1, 2]"},
		{tuple(tuple()), "{{}}"}, {tuple(list()), "{[]}"}, {list(tuple()), "[{}]"}, {list(list()), "[[]]"}, {list(list(), list()), "[[], []]"}, {list(list(list())), "[[[]]]"},
		{tuple(atom("a"), tuple(in(1), list(in(2), in(3)), in(4)), atom("b")), "{a, {1, [2, 3], 4}, b}"},
		{tuple(atom("ping"), pid(3, 1), list(in(1), in(-2), num(3, 0)), ref(7)), "{ping, <3.1>, [1, -2, 3+0i], #7}"},
		{list(in(1), num(1, 1), in(-1), in(0)), "[1, 1+1i, -1, 0]"}, {list(in(1), in(1)), "[1, 1]"}, {list(in(11)), "[11]"},
		{wide(1024), wideText(1024)}, {deep(63, in(5)), deepText(63, "5")}, {deep(63, tuple()), deepText(63, "{}")},
	}
}

// wrongs are terms that may not be, and what is told of them.
func wrongs() map[string]struct {
	t api.Term
	e api.Errno
} {
	type wrong = struct {
		t api.Term
		e api.Errno
	}
	return map[string]wrong{
		"no kind":                     {api.Term{}, api.ErrTerm},
		"a kind behind the last":      {api.Term{Kind: 10}, api.ErrTerm},
		"a kind below 0":              {api.Term{Kind: least}, api.ErrTerm},
		"an int too great":            {in(api.MaxInt + 1), api.ErrTerm},
		"an int too small":            {in(api.MinInt - 1), api.ErrTerm},
		"a wrong bool":                {api.Term{Kind: api.KindBool, N: 2}, api.ErrTerm},
		"a nil with a number":         {api.Term{Kind: api.KindNil, N: 1}, api.ErrTerm},
		"a nought below":              {api.Term{Kind: api.KindComplex, C: complex(0, math.Copysign(0, -1))}, api.ErrTerm},
		"half a number":               {api.Term{Kind: api.KindComplex, C: complex(0.5, 0)}, api.ErrTerm},
		"no number":                   {api.Term{Kind: api.KindComplex, C: complex(math.NaN(), 0)}, api.ErrTerm},
		"a part too great":            {api.Term{Kind: api.KindComplex, C: complex(0, part+1)}, api.ErrTerm},
		"the atom nil":                {atom("nil"), api.ErrTerm},
		"an atom of no bytes":         {atom(""), api.ErrTerm},
		"an atom too long":            {atom(strings.Repeat("a", 65)), api.ErrTerm},
		"an atom with a blank":        {atom("a b"), api.ErrTerm},
		"a pid of no actor":           {pid(256, 1), api.ErrTerm},
		"a ref of none":               {ref(0), api.ErrTerm},
		"a list with one of no kind":  {list(in(1), api.Term{}), api.ErrTerm},
		"a list with a wrong number":  {api.Term{Kind: api.KindList, N: 1}, api.ErrTerm},
		"too many parts":              {wide(1025), api.ErrParts},
		"too deep":                    {deep(64, in(1)), api.ErrParts},
		"a list that holds itself":    {endless(api.KindList), api.ErrParts},
		"a tuple that holds itself":   {endless(api.KindTuple), api.ErrParts},
		"none ahead of too many":      {list(append([]api.Term{{}}, wide(2000).L...)...), api.ErrTerm},
		"too deep ahead of none":      {list(deep(63, in(1)), api.Term{}), api.ErrParts},
		"one too many ahead of none":  {list(append(wide(1025).L, api.Term{})...), api.ErrParts},
		"a tuple in a list, too deep": {deep(63, tuple(in(1))), api.ErrParts},
	}
}

// same tells whether two terms are the same in all fields, noughts' signs too; nil is the empty list.
func same(a, b api.Term) bool {
	bit := math.Float64bits
	return a.Kind == b.Kind && a.N == b.N && a.S == b.S && a.P == b.P &&
		bit(real(a.C)) == bit(real(b.C)) && bit(imag(a.C)) == bit(imag(b.C)) &&
		slices.EqualFunc(a.L, b.L, same)
}

// short is a text as it is told of a failure.
func short(s string) string {
	if len(s) > 80 {
		return s[:40] + " .. " + s[len(s)-36:]
	}
	return s
}

func wantPrint(t *testing.T, x api.Term, want string, f api.Errno) {
	t.Helper()
	if s, e := text.Print(x); s != want || e != f {
		t.Errorf("Print: %q, %d, not %q, %d", short(s), e, short(want), f)
	}
}

func wantParse(t *testing.T, s string, want api.Term, f api.Errno, place int) {
	t.Helper()
	if x, e, at := text.Parse(s); !same(x, want) || e != f || at != place {
		t.Errorf("Parse(%q): %v, %d, %d, not %v, %d, %d", short(s), x, e, at, want, f, place)
	}
}

func wantHead(t *testing.T, s string, want api.Term, end int, f api.Errno) {
	t.Helper()
	if x, at, e := text.Head(s); !same(x, want) || at != end || e != f {
		t.Errorf("Head(%q): %v, %d, %d, not %v, %d, %d", short(s), x, at, e, want, end, f)
	}
}
