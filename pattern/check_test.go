package pattern_test

import (
	"math"
	"slices"
	"strings"
	"testing"

	"carousel/api"
	"carousel/pattern"
	"carousel/text"
)

func TestPa1Check(t *testing.T) {
	for _, x := range samples() {
		wantCheck(t, x.p, api.MaxLocals, api.OK)
	}
}

// Each field that a kind does not name is zero.
func TestPa1FieldsThatAreNotNamed(t *testing.T) {
	one := []api.Pattern{whatever()}
	for _, x := range []struct {
		p           api.Pattern
		n, term, in bool // which fields it names
	}{
		{p: whatever()}, {p: local(0), n: true}, {p: just(in(1)), term: true}, {p: some(api.KindInt), n: true}, {p: tup(), in: true}, {p: tup(whatever()), in: true}, {p: lst(), in: true}, {p: lst(whatever()), in: true}, {p: ahead(whatever()), in: true},
	} {
		wantCheck(t, x.p, api.MaxLocals, api.OK)
		if !x.n {
			for _, n := range []int{1, -1, 9, most, least} {
				p := x.p
				p.N = n
				wantRefused(t, p, api.ErrPattern)
			}
		}
		if !x.term {
			for _, y := range []api.Term{{Kind: api.KindNil}, {Kind: -1}, {N: 1}, {C: 1}, {C: 1i}, {C: complex(math.NaN(), 0)}, {S: "a"}, {P: api.Pid{N: 1}}, {P: api.Pid{Gen: 1}}, {L: []api.Term{{}}}, in(0), tuple()} {
				p := x.p
				p.Term = y
				wantRefused(t, p, api.ErrPattern)
			}
		}
		if !x.in {
			p := x.p
			p.L = one
			wantRefused(t, p, api.ErrPattern)
		}
		if x.p.Kind != api.PatList {
			p := x.p
			p.Rest = one
			wantRefused(t, p, api.ErrPattern)
		}
	}
}

// nil and the empty list are the same.
func TestPa1EmptyLists(t *testing.T) {
	none := []api.Pattern{}
	for _, x := range samples() {
		p := x.p
		if len(p.L) == 0 {
			p.L = none
		}
		if len(p.Rest) == 0 {
			p.Rest = none
		}
		if p.Term.Kind == 0 {
			p.Term.L = []api.Term{}
		}
		wantCheck(t, p, api.MaxLocals, api.OK)
		wantPrint(t, p, x.s)
	}
}

func TestPa1Kinds(t *testing.T) {
	for _, kind := range []int{0, -1, 7, 8, 1 << 32, 1<<32 + 1, most, least} {
		wantRefused(t, api.Pattern{Kind: kind}, api.ErrPattern)
		wantRefused(t, tup(whatever(), api.Pattern{Kind: kind}), api.ErrPattern)
	}
	for kind := api.KindNil; kind <= api.KindList; kind++ {
		wantCheck(t, some(kind), 0, api.OK)
	}
	for _, kind := range []int{0, -1, 10, 11, 1 << 32, 1<<32 + 1, most, least} {
		wantRefused(t, some(kind), api.ErrPattern)
		wantRefused(t, ahead(some(kind)), api.ErrPattern)
	}
}

func TestPa1Locals(t *testing.T) {
	for _, x := range []struct {
		n, locals int
		e         api.Errno
	}{
		{0, 0, api.ErrPattern}, {0, 1, api.OK}, {0, -1, api.ErrPattern}, {0, least, api.ErrPattern}, {0, most, api.OK}, {1, 1, api.ErrPattern}, {1, 2, api.OK}, {2, 1, api.ErrPattern},
		{-1, 1, api.ErrPattern}, {-1, 0, api.ErrPattern}, {-1, -1, api.ErrPattern}, {-2, -1, api.ErrPattern}, {-1, most, api.ErrPattern}, {least, most, api.ErrPattern}, {least, least, api.ErrPattern},
		{31, 31, api.ErrPattern}, {31, 32, api.OK}, {32, 32, api.ErrPattern}, {32, 33, api.OK}, {1000, 1001, api.OK}, {1000, 1000, api.ErrPattern}, {most, most, api.ErrPattern}, {most - 1, most, api.OK},
	} {
		wantCheck(t, local(x.n), x.locals, x.e)
		for _, wrap := range wraps() {
			wantCheck(t, wrap(local(x.n)), x.locals, x.e)
			wantCheck(t, wrap(wrap(local(x.n))), x.locals, x.e)
		}
	}
	for _, n := range []int{-1, 32, 33, most, least} {
		wantRefused(t, local(n), api.ErrPattern)
	}
	for _, p := range []api.Pattern{whatever(), just(in(40)), some(api.KindList), tup(), ahead(whatever(), lst())} {
		for _, locals := range []int{0, -1, 1, api.MaxLocals, most, least} {
			wantCheck(t, p, locals, api.OK)
		}
	}
}

func TestPa1LocalsThatStandTwice(t *testing.T) {
	for _, p := range []api.Pattern{
		tup(local(0), local(0)), lst(local(7), local(7)), ahead(local(0), local(0)), tup(local(0), local(1), local(0)), tup(local(0), tup(local(0))), tup(tup(local(0)), local(0)),
		ahead(ahead(local(3), whatever()), local(3)), ahead(lst(local(3)), local(3)), ahead(local(3), lst(tup(local(3)))), tup(ahead(local(2)), ahead(local(2))), tup(within(50, local(4), wraps()[4]), within(60, local(4), wraps()[0])),
		tup(append(many(1000, whatever()), local(0), local(31), local(0))...), tup(append([]api.Pattern{local(31)}, append(many(1000, whatever()), local(31))...)...),
	} {
		wantRefused(t, p, api.ErrPattern)
		wantCheck(t, p, 1000, api.ErrPattern)
	}
	var all []api.Pattern
	for n := range api.MaxLocals {
		all = append(all, local(n))
	}
	wantCheck(t, tup(all...), api.MaxLocals, api.OK)
	wantCheck(t, tup(all...), api.MaxLocals-1, api.ErrPattern)
	for n := range api.MaxLocals {
		wantRefused(t, ahead(local(n), all...), api.ErrPattern)
	}
	wantCheck(t, tup(local(0), local(1), local(10), local(100)), 101, api.OK)
	var great []api.Pattern
	for n := range 1000 {
		great = append(great, local(most-1-n))
	}
	wantCheck(t, tup(great...), most, api.OK)
	wantCheck(t, ahead(great[0], great...), most, api.ErrPattern)
}

// A local stands twice only within one pattern.
func TestR4LocalsOfOtherPatterns(t *testing.T) {
	for range 3 {
		wantCheck(t, local(0), 1, api.OK)
		wantCheck(t, tup(local(0), local(0)), 1, api.ErrPattern)
		wantFirst(t, []api.Term{in(5)}, 0, []api.Pattern{tup(local(0)), local(0)}, 0, 1, []api.Bind{{Local: 0, Term: in(5)}}, api.OK)
	}
}

func TestPa1Terms(t *testing.T) {
	for _, x := range []api.Term{null(), truth(0), truth(1), in(0), in(api.MaxInt), in(api.MinInt), num(0, 0), num(api.MaxPart, -api.MaxPart), atom("a"), atom(strings.Repeat("a", 64)), pid(0, 1), pid(255, api.MaxInt), ref(1)} {
		wantCheck(t, just(x), 0, api.OK)
	}
	for _, x := range []api.Term{
		tuple(), list(), tuple(in(1)), list(in(1)), list(list()), manyTerms(1024), manyTerms(1025), deepTerm(63), deepTerm(64), endlessTerm(api.KindList), endlessTerm(api.KindTuple),
		{}, {Kind: 10}, {Kind: -1}, in(api.MaxInt + 1), in(api.MinInt - 1), truth(2), truth(-1), num(api.MaxPart+1, 0), {Kind: api.KindComplex, C: 0.5}, {Kind: api.KindComplex, C: complex(0, math.Copysign(0, -1))}, {Kind: api.KindComplex, C: complex(math.NaN(), 0)},
		atom(""), atom("nil"), atom("true"), atom("A"), atom("a b"), atom("_"), atom(strings.Repeat("a", 65)), pid(256, 1), pid(-1, 1), pid(0, 0), ref(0), ref(-1), {Kind: api.KindNil, N: 1}, {Kind: api.KindInt, S: "a"}, {Kind: api.KindInt, L: []api.Term{in(1)}},
	} {
		wantRefused(t, just(x), api.ErrPattern)
		wantRefused(t, ahead(just(x)), api.ErrPattern)
	}
}

func TestPa1Rests(t *testing.T) {
	wantCheck(t, lst(), 0, api.OK)
	for _, x := range samples() {
		if parts, deep := size(x.p); parts < api.MaxParts && deep < api.MaxDeep {
			wantCheck(t, ahead(x.p), api.MaxLocals, api.OK)
			wantCheck(t, ahead(ahead(x.p)), api.MaxLocals, x.orTooDeep(2))
		}
	}
	two := []api.Pattern{whatever(), lst()}
	for _, p := range []api.Pattern{{Kind: api.PatList, Rest: two}, {Kind: api.PatList, L: two, Rest: two}, {Kind: api.PatList, Rest: many(3, lst())}, {Kind: api.PatList, Rest: many(5000, lst())}, ahead(api.Pattern{Kind: api.PatList, Rest: two}), ahead(api.Pattern{}), ahead(ahead(api.Pattern{}))} {
		wantRefused(t, p, api.ErrPattern)
		wantRefused(t, tup(p), api.ErrPattern)
	}
}

// orTooDeep is what Check tells of a sample that stands within so many others.
func (x sample) orTooDeep(within int) api.Errno {
	if parts, deep := size(x.p); parts+within > api.MaxParts || deep+within > api.MaxDeep {
		return api.ErrParts
	}
	return api.OK
}

// size is how many parts a pattern has, and how deep they stand.
func size(p api.Pattern) (parts, deep int) {
	for _, x := range slices.Concat(p.L, p.Rest) {
		n, d := size(x)
		parts += n
		deep = max(deep, d)
	}
	return parts + 1, deep + 1
}

func TestPa1Parts(t *testing.T) {
	for _, x := range []struct {
		p api.Pattern
		e api.Errno
	}{
		{tup(many(1023, whatever())...), api.OK}, {tup(many(1024, whatever())...), api.ErrParts}, {lst(many(1023, lst())...), api.OK}, {lst(many(1024, lst())...), api.ErrParts},
		{ahead(whatever(), many(1022, tup())...), api.OK}, {ahead(whatever(), many(1023, tup())...), api.ErrParts}, {ahead(tup(many(1022, whatever())...)), api.OK}, {ahead(tup(many(1023, whatever())...)), api.ErrParts},
		{tup(tup(many(511, whatever())...), lst(many(510, whatever())...)), api.OK}, {tup(tup(many(511, whatever())...), lst(many(511, whatever())...)), api.ErrParts},
		{tup(many(341, tup(whatever(), whatever()))...), api.OK}, {tup(append(many(341, tup(whatever(), whatever())), whatever())...), api.ErrParts}, {lst(many(511, ahead(whatever()))...), api.OK}, {lst(append(many(511, ahead(whatever())), lst())...), api.OK}, {lst(append(many(511, ahead(whatever())), lst(), lst())...), api.ErrParts},
		{tup(many(1<<16, whatever())...), api.ErrParts}, {ahead(tup(many(1<<16, whatever())...)), api.ErrParts},
	} {
		if x.e == api.OK {
			wantCheck(t, x.p, api.MaxLocals, x.e)
		} else {
			wantRefused(t, x.p, x.e)
		}
	}
	// A pattern of a term is one part.
	wantCheck(t, tup(many(1023, just(pid(1, 1)))...), 0, api.OK)
	wantCheck(t, tup(many(1024, just(pid(1, 1)))...), 0, api.ErrParts)
}

func TestPa1Deep(t *testing.T) {
	for _, wrap := range wraps() {
		for _, x := range []api.Pattern{whatever(), local(0), just(in(1)), tup(), lst()} {
			wantCheck(t, within(62, x, wrap), 1, api.OK)
			wantCheck(t, within(63, x, wrap), 1, api.OK)
			wantRefused(t, within(64, x, wrap), api.ErrParts)
			wantRefused(t, within(1000, x, wrap), api.ErrParts)
		}
	}
	all := whatever()
	for i := range 63 {
		all = wraps()[i%len(wraps())](all)
	}
	wantCheck(t, all, 0, api.OK)
	wantCheck(t, tup(all), 0, api.ErrParts)
	for _, kind := range []int{api.PatTuple, api.PatList} {
		wantRefused(t, holding(kind, false), api.ErrParts)
	}
	wantRefused(t, holding(api.PatList, true), api.ErrParts)
	wantRefused(t, holding(api.PatTuple, true), api.ErrPattern)
}

// Of two parts that may not be the one that is gone through first is told.
func TestPa1WhichErrorOfTwo(t *testing.T) {
	bad, deep, wide := api.Pattern{}, within(64, whatever(), wraps()[0]), many(1024, whatever())
	for _, x := range []struct {
		p api.Pattern
		e api.Errno
	}{
		{tup(bad, deep), api.ErrPattern}, {tup(deep, bad), api.ErrParts}, {tup(append([]api.Pattern{bad}, wide...)...), api.ErrPattern}, {tup(append(slices.Clone(wide), bad)...), api.ErrParts},
		{tup(append(many(1022, whatever()), bad, whatever())...), api.ErrPattern}, {tup(append(many(1023, whatever()), bad)...), api.ErrParts}, {tup(append(many(1023, whatever()), bad, whatever())...), api.ErrParts},
		{ahead(bad, deep), api.ErrParts}, {ahead(deep, bad), api.ErrPattern}, {ahead(bad, wide...), api.ErrParts}, {ahead(bad, many(1023, whatever())...), api.ErrParts}, {ahead(bad, many(1022, whatever())...), api.ErrPattern},
		{tup(tup(tup(bad)), deep), api.ErrPattern}, {tup(tup(deep), tup(tup(bad))), api.ErrParts}, {within(63, bad, wraps()[0]), api.ErrPattern}, {within(64, bad, wraps()[0]), api.ErrParts},
		{tup(local(0), local(0), deep), api.ErrPattern}, {tup(local(0), deep, local(0)), api.ErrParts}, {tup(local(32), deep), api.ErrPattern}, {tup(just(tuple()), deep), api.ErrPattern}, {tup(deep, just(tuple())), api.ErrParts}, {tup(just(deepTerm(100)), deep), api.ErrPattern}, {tup(just(manyTerms(2000))), api.ErrPattern},
		// What may not be is told ahead of what is in it.
		{api.Pattern{Kind: api.PatTuple, N: 1, L: []api.Pattern{deep}}, api.ErrPattern}, {api.Pattern{Kind: api.PatTuple, N: 1, L: wide}, api.ErrPattern}, {api.Pattern{Kind: api.PatList, L: []api.Pattern{deep}, Rest: many(2, deep)}, api.ErrPattern}, {api.Pattern{Kind: api.PatAny, L: wide}, api.ErrPattern}, {api.Pattern{Kind: 9, Rest: wide}, api.ErrPattern},
	} {
		wantRefused(t, x.p, x.e)
	}
}

// modelCheck goes through the parts of a pattern, laid out one behind the other, as the document's words have it.
func modelCheck(p api.Pattern, locals int) api.Errno {
	type part struct {
		p    api.Pattern
		deep int
	}
	var parts []part
	var lay func(p api.Pattern, deep int)
	lay = func(p api.Pattern, deep int) {
		parts = append(parts, part{p, deep})
		for _, x := range slices.Concat(p.L, p.Rest) {
			lay(x, deep+1)
		}
	}
	lay(p, 1)
	seen := map[int]bool{}
	for i, x := range parts {
		if i >= 1024 || x.deep > 64 {
			return api.ErrParts
		}
		if !maybe(x.p, locals) || x.p.Kind == api.PatVar && seen[x.p.N] {
			return api.ErrPattern
		}
		seen[x.p.N] = seen[x.p.N] || x.p.Kind == api.PatVar
	}
	return api.OK
}

// maybe tells whether a pattern may be, but for those in it: it is what its kind makes of the fields that it names.
func maybe(p api.Pattern, locals int) bool {
	var want api.Pattern
	switch p.Kind {
	case api.PatAny:
		want = whatever()
	case api.PatVar:
		want = local(p.N)
		if p.N < 0 || p.N >= locals {
			return false
		}
	case api.PatTerm:
		s, e := text.Print(p.Term)
		want = just(p.Term)
		if e != api.OK || strings.ContainsAny(s, "{[") {
			return false
		}
	case api.PatKind:
		want = some(p.N)
		if p.N < api.KindNil || p.N > api.KindList {
			return false
		}
	case api.PatTuple:
		want = tup(p.L...)
	case api.PatList:
		want = lst(p.L...)
		want.Rest = p.Rest[:min(len(p.Rest), 1)]
	}
	return p.Kind > 0 && same(p, want)
}

// Patterns of all kinds, fields and few parts, most of which may not be.
func TestPa1HeldAgainstTheModel(t *testing.T) {
	var l []api.Pattern
	for kind := -1; kind <= 8; kind++ {
		for _, n := range []int{-1, 0, 1, 2, 9, 10} {
			l = append(l, api.Pattern{Kind: kind, N: n}, api.Pattern{Kind: kind, N: n, Term: atom("a")})
		}
		l = append(l, api.Pattern{Kind: kind, Term: tuple()}, api.Pattern{Kind: kind, Term: api.Term{N: 1}})
	}
	for _, a := range slices.Clone(l) {
		for kind := -1; kind <= 8; kind++ {
			l = append(l, api.Pattern{Kind: kind, L: []api.Pattern{a}}, api.Pattern{Kind: kind, Rest: []api.Pattern{a}})
		}
	}
	count := map[api.Errno]int{}
	for i, a := range l {
		ps := []api.Pattern{a, tup(a, local(1)), ahead(local(1), a), ahead(a, local(1)), within(62, a, wraps()[2])}
		if i%100 == 0 {
			ps = append(ps, tup(append(many(1022, whatever()), a)...), tup(append(many(1023, whatever()), a)...))
		}
		for _, p := range ps {
			for _, locals := range []int{0, 1, 2, 3} {
				e := modelCheck(p, locals)
				wantCheck(t, p, locals, e)
				count[e]++
			}
		}
	}
	if count[api.OK] < 100 || count[api.ErrPattern] < 100 || count[api.ErrParts] < 100 {
		t.Error("too few of a kind:", count)
	}
}

func TestPa1LocalsOfAPattern(t *testing.T) {
	for s, want := range map[string][]int{
		"_": nil, "$0": {0}, "$31": {31}, "{}": nil, "{$3, $1, $2}": {1, 2, 3}, "[$9 | $0]": {0, 9}, "[| $7]": {7}, "{$5, [$4, {$31 } | [$30 | $0]], $10, $2}": {0, 2, 4, 5, 10, 30, 31}, "{a, :int, [_ | []]}": nil, "{{{$1}}, {{$0}}}": {0, 1}, "{9, $10, $9}": {9, 10},
	} {
		if l, e := pattern.Locals(read(t, s)); !slices.Equal(l, want) || e != api.OK {
			t.Errorf("Locals(%s): %v, %d, not %v", s, l, e, want)
		}
	}
	var all []api.Pattern
	for n := range api.MaxLocals {
		all = append(all, local(n*7%api.MaxLocals))
	}
	l, e := pattern.Locals(tup(all...))
	if len(l) != api.MaxLocals || !slices.IsSorted(l) || l[0] != 0 || l[31] != 31 || e != api.OK {
		t.Error("Locals of all:", l, e)
	}
	// Whether Locals refuses does not hang on how many there are, but on MaxLocals.
	wantRefused(t, local(32), api.ErrPattern)
}

// What is handed in is not changed, what stands behind a list's end is none of it, and what is answered is new.
func TestR3CheckAndLocals(t *testing.T) {
	room := []api.Pattern{local(1), local(0), {Kind: 99}, holding(api.PatList, false)}
	p := tup(room[:2]...)
	rest := api.Pattern{Kind: api.PatList, L: room[:0], Rest: room[:1]}
	l, e := pattern.Locals(p)
	m, f := pattern.Locals(p)
	wantCheck(t, rest, 2, api.OK)
	wantPrint(t, rest, "[| $1]")
	wantPrint(t, p, "{$1, $0}")
	if !slices.Equal(l, []int{0, 1}) || e != api.OK || f != api.OK {
		t.Error("Locals:", l, e)
	}
	spoil(l)
	if !slices.Equal(m, []int{0, 1}) || !same(p, tup(local(1), local(0))) || room[2].Kind != 99 || len(room[3].L) != 1 {
		t.Error("the list was changed:", m, room[:3])
	}
}
