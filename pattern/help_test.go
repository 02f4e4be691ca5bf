package pattern_test

import (
	"math"
	"slices"
	"strconv"
	"strings"
	"testing"

	"carousel/api"
	"carousel/pattern"
	"carousel/text"
)

const (
	least = -1 << 63
	most  = 1<<63 - 1
)

func in(n int) api.Term { return api.Term{Kind: api.KindInt, N: n} }

func num(re, im int) api.Term {
	return api.Term{Kind: api.KindComplex, C: complex(float64(re), float64(im))}
}

func atom(s string) api.Term { return api.Term{Kind: api.KindAtom, S: s} }

func truth(n int) api.Term { return api.Term{Kind: api.KindBool, N: n} }

func null() api.Term { return api.Term{Kind: api.KindNil} }

func pid(n, gen int) api.Term { return api.Term{Kind: api.KindPid, P: api.Pid{N: n, Gen: gen}} }

func ref(n int) api.Term { return api.Term{Kind: api.KindRef, N: n} }

func tuple(l ...api.Term) api.Term { return api.Term{Kind: api.KindTuple, L: l} }

func list(l ...api.Term) api.Term { return api.Term{Kind: api.KindList, L: l} }

// manyTerms is a list of that many parts, all but itself noughts.
func manyTerms(parts int) api.Term { return list(slices.Repeat([]api.Term{in(0)}, parts-1)...) }

// deepTerm is a nought within so many lists.
func deepTerm(within int) api.Term {
	t := in(0)
	for range within {
		t = list(t)
	}
	return t
}

func endlessTerm(kind int) api.Term {
	l := make([]api.Term, 1)
	l[0] = api.Term{Kind: kind, L: l}
	return l[0]
}

func whatever() api.Pattern { return api.Pattern{Kind: api.PatAny} }

func local(n int) api.Pattern { return api.Pattern{Kind: api.PatVar, N: n} }

func just(t api.Term) api.Pattern { return api.Pattern{Kind: api.PatTerm, Term: t} }

func some(kind int) api.Pattern { return api.Pattern{Kind: api.PatKind, N: kind} }

func tup(l ...api.Pattern) api.Pattern { return api.Pattern{Kind: api.PatTuple, L: l} }

func lst(l ...api.Pattern) api.Pattern { return api.Pattern{Kind: api.PatList, L: l} }

// ahead is a list with a rest.
func ahead(rest api.Pattern, l ...api.Pattern) api.Pattern {
	return api.Pattern{Kind: api.PatList, L: l, Rest: []api.Pattern{rest}}
}

// many are that many of one pattern.
func many(n int, p api.Pattern) []api.Pattern { return slices.Repeat([]api.Pattern{p}, n) }

// within is a pattern with so many others about it, each made by wrap.
func within(n int, p api.Pattern, wrap func(api.Pattern) api.Pattern) api.Pattern {
	for range n {
		p = wrap(p)
	}
	return p
}

// wraps are the ways in which a pattern may stand within another.
func wraps() []func(api.Pattern) api.Pattern {
	return []func(api.Pattern) api.Pattern{
		func(p api.Pattern) api.Pattern { return tup(p) },
		func(p api.Pattern) api.Pattern { return lst(p) },
		func(p api.Pattern) api.Pattern { return ahead(p) },
		func(p api.Pattern) api.Pattern { return tup(whatever(), p) },
		func(p api.Pattern) api.Pattern { return ahead(p, whatever()) },
		func(p api.Pattern) api.Pattern { return ahead(whatever(), p) },
	}
}

// holding is a pattern that holds itself.
func holding(kind int, inRest bool) api.Pattern {
	l := make([]api.Pattern, 1)
	l[0] = api.Pattern{Kind: kind, L: l}
	if inRest {
		l[0] = api.Pattern{Kind: kind, Rest: l}
	}
	return l[0]
}

// sample is a pattern that may be, and its text.
type sample struct {
	p api.Pattern
	s string
}

// leaves are patterns with no others in them.
func leaves() []sample {
	long := "z" + strings.Repeat("Q", 63)
	return []sample{
		{whatever(), "_"}, {local(0), "$0"}, {local(1), "$1"}, {local(9), "$9"}, {local(10), "$10"}, {local(31), "$31"},
		{some(api.KindNil), ":nil"}, {some(api.KindBool), ":bool"}, {some(api.KindInt), ":int"}, {some(api.KindComplex), ":complex"}, {some(api.KindAtom), ":atom"}, {some(api.KindPid), ":pid"}, {some(api.KindRef), ":ref"}, {some(api.KindTuple), ":tuple"}, {some(api.KindList), ":list"},
		{just(null()), "nil"}, {just(truth(0)), "false"}, {just(truth(1)), "true"}, {just(in(0)), "0"}, {just(in(-12)), "-12"}, {just(in(api.MaxInt)), "4611686018427387903"}, {just(in(api.MinInt)), "-4611686018427387903"},
		{just(num(0, 0)), "0+0i"}, {just(num(3, 2)), "3+2i"}, {just(num(-1, -1)), "-1-1i"}, {just(atom("a")), "a"}, {just(atom("int")), "int"}, {just(atom("a_")), "a_"}, {just(atom(long)), long},
		{just(pid(0, 1)), "<0.1>"}, {just(pid(255, api.MaxInt)), "<255.4611686018427387903>"}, {just(ref(7)), "#7"},
	}
}

// samples are patterns that may be, all unlike.
func samples() []sample {
	l := append(leaves(),
		sample{tup(), "{}"}, sample{lst(), "[]"}, sample{ahead(whatever()), "[| _]"}, sample{ahead(local(5)), "[| $5]"}, sample{ahead(lst()), "[| []]"}, sample{ahead(tup()), "[| {}]"}, sample{ahead(ahead(whatever())), "[| [| _]]"},
		sample{tup(just(atom("ping")), local(0)), "{ping, $0}"}, sample{ahead(local(1), just(in(1)), local(0)), "[1, $0 | $1]"}, sample{lst(local(0)), "[$0]"}, sample{tup(whatever(), whatever()), "{_, _}"}, sample{ahead(some(api.KindList), whatever()), "[_ | :list]"},
		sample{tup(tup(), lst(), tup(lst(tup()))), "{{}, [], {[{}]}}"}, sample{lst(lst(lst())), "[[[]]]"}, sample{ahead(ahead(just(atom("c")), just(atom("b"))), just(atom("a"))), "[a | [b | c]]"}, sample{ahead(lst(just(in(2))), ahead(whatever(), whatever()), local(2)), "[[_ | _], $2 | [2]]"},
		sample{tup(local(3), local(1), ahead(local(0), local(2))), "{$3, $1, [$2 | $0]}"}, sample{tup(just(pid(3, 1)), just(num(3, 0)), just(ref(1)), some(api.KindPid)), "{<3.1>, 3+0i, #1, :pid}"},
		sample{lst(many(1023, whatever())...), "[" + strings.Repeat("_, ", 1022) + "_]"}, sample{ahead(whatever(), many(1022, just(in(7)))...), "[" + strings.Repeat("7, ", 1021) + "7 | _]"},
		sample{within(63, tup(), wraps()[0]), strings.Repeat("{", 64) + strings.Repeat("}", 64)}, sample{within(63, local(31), wraps()[2]), strings.Repeat("[| ", 63) + "$31" + strings.Repeat("]", 63)},
	)
	for _, x := range leaves() {
		l = append(l, sample{tup(x.p), "{" + x.s + "}"}, sample{lst(x.p, just(in(1))), "[" + x.s + ", 1]"}, sample{ahead(x.p, just(atom("end"))), "[end | " + x.s + "]"})
	}
	return l
}

// sameTerm tells whether two terms are the same in all fields, noughts' signs too; nil is the empty list.
func sameTerm(a, b api.Term) bool {
	bit := math.Float64bits
	return a.Kind == b.Kind && a.N == b.N && a.S == b.S && a.P == b.P &&
		bit(real(a.C)) == bit(real(b.C)) && bit(imag(a.C)) == bit(imag(b.C)) &&
		slices.EqualFunc(a.L, b.L, sameTerm)
}

func same(a, b api.Pattern) bool {
	return a.Kind == b.Kind && a.N == b.N && sameTerm(a.Term, b.Term) && slices.EqualFunc(a.L, b.L, same) && slices.EqualFunc(a.Rest, b.Rest, same)
}

func sameBinds(a, b []api.Bind) bool {
	return slices.EqualFunc(a, b, func(x, y api.Bind) bool { return x.Local == y.Local && sameTerm(x.Term, y.Term) })
}

// short is a text as it is told of a failure.
func short(s string) string {
	if len(s) > 80 {
		return s[:40] + " .. " + s[len(s)-36:]
	}
	return s
}

func wantCheck(t *testing.T, p api.Pattern, locals int, want api.Errno) {
	t.Helper()
	if e := pattern.Check(p, locals); e != want {
		t.Errorf("Check(%s, %d): %d, not %d", show(p), locals, e, want)
	}
}

// wantRefused asks everybody who is handed a pattern: all tell what Check tells for MaxLocals, and nothing besides.
func wantRefused(t *testing.T, p api.Pattern, want api.Errno) {
	t.Helper()
	wantCheck(t, p, api.MaxLocals, want)
	if l, e := pattern.Locals(p); len(l) > 0 || e != want {
		t.Errorf("Locals(%s): %v, %d, not %d", show(p), l, e, want)
	}
	if s, e := pattern.Print(p); s != "" || e != want {
		t.Errorf("Print(%s): %q, %d, not %d", show(p), short(s), e, want)
	}
	wantMatch(t, p, in(1), nil, false, want)
	wantMatch(t, p, api.Term{}, nil, false, want)
	wantFirst(t, []api.Term{in(1)}, 0, []api.Pattern{p}, 0, 0, nil, want)
	wantFirst(t, []api.Term{in(1)}, 0, []api.Pattern{whatever(), p}, 0, 0, nil, want)
	wantFirst(t, nil, 0, []api.Pattern{p}, 0, 0, nil, want)
}

func wantMatch(t *testing.T, p api.Pattern, x api.Term, binds []api.Bind, ok bool, want api.Errno) {
	t.Helper()
	b, is, e := pattern.Match(p, x)
	if !sameBinds(b, binds) || is != ok || e != want {
		t.Errorf("Match(%s, %v): %v, %v, %d, not %v, %v, %d", show(p), x, b, is, e, binds, ok, want)
	}
}

func wantFirst(t *testing.T, l []api.Term, from int, ps []api.Pattern, at, arm int, binds []api.Bind, want api.Errno) {
	t.Helper()
	n, a, b, e := pattern.First(l, from, ps)
	if n != at || a != arm || !sameBinds(b, binds) || e != want {
		t.Errorf("First of %d terms from %d, %d patterns: %d, %d, %v, %d, not %d, %d, %v, %d", len(l), from, len(ps), n, a, b, e, at, arm, binds, want)
	}
}

func wantPrint(t *testing.T, p api.Pattern, want string) {
	t.Helper()
	if s, e := pattern.Print(p); s != want || e != api.OK {
		t.Errorf("Print: %q, %d, not %q", short(s), e, short(want))
	}
}

func wantParse(t *testing.T, s string, want api.Pattern, f api.Errno, place int) {
	t.Helper()
	if p, e, at := pattern.Parse(s); !same(p, want) || e != f || at != place {
		t.Errorf("Parse(%q): %s, %d, %d, not %s, %d, %d", short(s), show(p), e, at, show(want), f, place)
	}
}

// wantWrong asks for a text's first wrong place.
func wantWrong(t *testing.T, s string, place int) {
	t.Helper()
	wantParse(t, s, api.Pattern{}, api.ErrPattern, place)
}

// show tells a pattern of a failure, whatever it is: one that holds itself, too.
func show(p api.Pattern) string {
	s, e := pattern.Print(p)
	if e != api.OK {
		return "kind " + strconv.Itoa(p.Kind) + ", number " + strconv.Itoa(p.N) + ", " + strconv.Itoa(len(p.L)) + " in it, " + strconv.Itoa(len(p.Rest)) + " behind them"
	}
	return short(s)
}

// read is the pattern of a text that is one.
func read(t *testing.T, s string) api.Pattern {
	t.Helper()
	p, e, at := pattern.Parse(s)
	if e != api.OK {
		t.Fatalf("Parse(%q): %d, %d", short(s), e, at)
	}
	return p
}

func readTerm(t *testing.T, s string) api.Term {
	t.Helper()
	x, e, at := text.Parse(s)
	if e != api.OK {
		t.Fatalf("%q is no term: %d, %d", short(s), e, at)
	}
	return x
}

// spoil writes over a list, and over its spare room: of an answer nobody else is to see that.
func spoil[T any](l []T) { clear(l[:cap(l)]) }
