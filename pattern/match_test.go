package pattern_test

import (
	"math"
	"strconv"
	"strings"
	"testing"

	"carousel/api"
	"carousel/pattern"
)

// bound are binds, by texts: `$1=5 $0=[3]`.
func bound(t *testing.T, s string) []api.Bind {
	t.Helper()
	var l []api.Bind
	for s != "" {
		var one string
		one, s, _ = strings.Cut(s, " $")
		name, x, _ := strings.Cut(strings.TrimPrefix(one, "$"), "=")
		n, err := strconv.Atoi(name)
		if err != nil {
			t.Fatal("no local:", one)
		}
		l = append(l, api.Bind{Local: n, Term: readTerm(t, x)})
	}
	return l
}

func TestPa2Match(t *testing.T) {
	for _, x := range []struct{ p, t, binds string }{
		{"{ping, $0}", "{ping, 5}", "$0=5"}, {"[1, $0 | $1]", "[1, 2, 3]", "$0=2 $1=[3]"}, {":int", "5", ""}, {"[_ | :list]", "[a]", ""},
		{"_", "nil", ""}, {"_", "{a, [b]}", ""}, {"$0", "[1, 2]", "$0=[1, 2]"}, {"$31", "{}", "$31={}"}, {"$5", "3+2i", "$5=3+2i"},
		{"nil", "nil", ""}, {"true", "true", ""}, {"false", "false", ""}, {"-7", "-7", ""}, {"3+2i", "3+2i", ""}, {"a", "a", ""}, {"<3.1>", "<3.1>", ""}, {"#7", "#7", ""},
		{":nil", "nil", ""}, {":bool", "false", ""}, {":bool", "true", ""}, {":int", "0", ""}, {":complex", "0+0i", ""}, {":atom", "a", ""}, {":pid", "<0.1>", ""}, {":ref", "#1", ""}, {":tuple", "{}", ""}, {":tuple", "{a, b}", ""}, {":list", "[]", ""}, {":list", "[[]]", ""},
		{"{}", "{}", ""}, {"{_}", "{{}}", ""}, {"{$0}", "{{}}", "$0={}"}, {"{_, _}", "{a, b}", ""}, {"{$1, $0}", "{a, b}", "$1=a $0=b"}, {"{{$1}, {$0, $2}}", "{{a}, {b, c}}", "$1=a $0=b $2=c"},
		{"[]", "[]", ""}, {"[_]", "[a]", ""}, {"[$0]", "[[1, 2]]", "$0=[1, 2]"}, {"[1, 2]", "[1, 2]", ""}, {"[$2, $1, $0]", "[a, b, c]", "$2=a $1=b $0=c"},
		{"[| _]", "[]", ""}, {"[| _]", "[a, b]", ""}, {"[| $0]", "[]", "$0=[]"}, {"[| $0]", "[a, b]", "$0=[a, b]"}, {"[a | _]", "[a]", ""}, {"[a | $0]", "[a]", "$0=[]"}, {"[a | $0]", "[a, b]", "$0=[b]"}, {"[$1 | $0]", "[a, b, c]", "$1=a $0=[b, c]"},
		{"[a | []]", "[a]", ""}, {"[a | [b]]", "[a, b]", ""}, {"[a | [$3]]", "[a, b]", "$3=b"}, {"[a | [b | $0]]", "[a, b]", "$0=[]"}, {"[a | [b | $0]]", "[a, b, c, d]", "$0=[c, d]"}, {"[a | [| [| $0]]]", "[a, b]", "$0=[b]"}, {"[$3 | [$2 | [$1 | [$0]]]]", "[1, 2, 3, 4]", "$3=1 $2=2 $1=3 $0=4"}, {"[| []]", "[]", ""}, {"[| :list]", "[]", ""}, {"[1, 2 | :list]", "[1, 2, 3]", ""},
		{"[[$0 | $1] | $2]", "[[1], [2]]", "$0=1 $1=[] $2=[[2]]"}, {"{[| $1], $0, [_, _ | $2]}", "{[1], [2], [3, 4, 5]}", "$1=[1] $0=[2] $2=[5]"}, {"[{ok, $1} | [{ok, $0} | _]]", "[{ok, 1}, {ok, 2}, {ok, 3}]", "$1=1 $0=2"},
	} {
		wantMatch(t, read(t, x.p), readTerm(t, x.t), bound(t, x.binds), true, api.OK)
	}
}

func TestPa2NoMatch(t *testing.T) {
	for _, x := range []struct{ p, t string }{
		{"[$0]", "[1, 2]"}, {"{_, _}", "{a}"}, {"nil", "[]"}, {"nil", "false"}, {"true", "false"}, {"false", "0"}, {"true", "1"}, {"1", "true"}, {"1", "2"}, {"1", "1+0i"}, {"1+0i", "1"}, {"0", "0+0i"}, {"1", "#1"}, {"#1", "1"}, {"#1", "#2"}, {"3+2i", "3-2i"}, {"3+2i", "2+3i"}, {"a", "b"}, {"a", "aa"}, {"ab", "a"}, {"<3.1>", "<3.2>"}, {"<3.1>", "<4.1>"}, {"a", "{a}"}, {"1", "[1]"}, {"nil", "{}"},
		{":nil", "false"}, {":bool", "nil"}, {":int", "1+0i"}, {":int", "#1"}, {":complex", "1"}, {":atom", "nil"}, {":atom", "true"}, {":pid", "#1"}, {":ref", "1"}, {":tuple", "[]"}, {":list", "{}"}, {":list", "nil"}, {":tuple", "a"},
		{"{}", "[]"}, {"[]", "{}"}, {"{}", "{a}"}, {"[]", "[a]"}, {"{_}", "{}"}, {"[_]", "[]"}, {"{_}", "[a]"}, {"[_]", "{a}"}, {"{_, _}", "{a, b, c}"}, {"[_, _]", "[a]"}, {"[_, _]", "[a, b, c]"}, {"{$0}", "a"}, {"[$0]", "a"}, {"{}", "nil"}, {"[]", "nil"},
		{"{a, $0}", "{b, 1}"}, {"{$0, a}", "{1, b}"}, {"{$0, {$1, a}}", "{1, {2, b}}"}, {"[$0, $1, 3]", "[1, 2, 4]"}, {"{{a}}", "{a}"}, {"{a}", "{{a}}"},
		{"[| _]", "{}"}, {"[| $0]", "nil"}, {"[| _]", "{a}"}, {"[a | _]", "[]"}, {"[a | _]", "[b]"}, {"[a, b | _]", "[a]"}, {"[a | $0]", "[]"}, {"[$0, $1 | $2]", "[1]"}, {"[$0 | [$1 | $2]]", "[1]"}, {"[a | []]", "[a, b]"}, {"[a | [b]]", "[a]"}, {"[a | [b]]", "[a, b, c]"}, {"[a | [b | [c]]]", "[a, b]"}, {"[| []]", "[a]"},
		{"[a | b]", "[a, b]"}, {"[a | b]", "[a]"}, {"[| nil]", "[]"}, {"[a | {}]", "[a]"}, {"[a | {b}]", "[a, b]"}, {"[| :tuple]", "[]"}, {"[| :int]", "[1]"}, {"[$0 | :nil]", "[1]"}, {"[$0 | 5]", "[1]"}, {"[$0 | {$1}]", "[1, 2]"},
	} {
		wantMatch(t, read(t, x.p), readTerm(t, x.t), nil, false, api.OK)
	}
}

// Each kind's pattern and each term of samples: only a kind's own terms are of it.
func TestPa2Kinds(t *testing.T) {
	for _, x := range samples() {
		if x.p.Kind != api.PatTerm {
			continue
		}
		for kind := api.KindNil; kind <= api.KindList; kind++ {
			wantMatch(t, some(kind), x.p.Term, nil, kind == x.p.Term.Kind, api.OK)
			wantMatch(t, tup(some(kind)), tuple(x.p.Term), nil, kind == x.p.Term.Kind, api.OK)
		}
		for _, y := range samples() {
			if y.p.Kind == api.PatTerm {
				wantMatch(t, x.p, y.p.Term, nil, x.s == y.s, api.OK)
			}
		}
	}
}

func TestPa2AllPartsAndDepths(t *testing.T) {
	wantMatch(t, lst(many(1023, just(in(0)))...), manyTerms(1024), nil, true, api.OK)
	wantMatch(t, lst(many(1022, just(in(0)))...), manyTerms(1024), nil, false, api.OK)
	wantMatch(t, lst(many(1023, just(in(0)))...), manyTerms(1023), nil, false, api.OK)
	wantMatch(t, ahead(local(3), many(1022, some(api.KindInt))...), manyTerms(1024), []api.Bind{{Local: 3, Term: list(in(0))}}, true, api.OK)
	wantMatch(t, ahead(local(3)), manyTerms(1024), []api.Bind{{Local: 3, Term: manyTerms(1024)}}, true, api.OK)
	wantMatch(t, within(63, local(0), wraps()[1]), deepTerm(63), []api.Bind{{Local: 0, Term: in(0)}}, true, api.OK)
	wantMatch(t, within(63, local(0), wraps()[2]), deepTerm(63), []api.Bind{{Local: 0, Term: deepTerm(63)}}, true, api.OK)
	wantMatch(t, within(63, local(0), wraps()[4]), manyTerms(1024), []api.Bind{{Local: 0, Term: manyTerms(1024 - 63)}}, true, api.OK)
	wantMatch(t, within(63, local(0), wraps()[4]), manyTerms(64), []api.Bind{{Local: 0, Term: list()}}, true, api.OK)
	wantMatch(t, within(63, local(0), wraps()[4]), manyTerms(63), nil, false, api.OK)
	var all []api.Pattern
	var l []api.Term
	var binds []api.Bind
	for n := range api.MaxLocals {
		all = append(all, local(31-n))
		l = append(l, in(n))
		binds = append(binds, api.Bind{Local: 31 - n, Term: in(n)})
	}
	wantMatch(t, tup(all...), tuple(l...), binds, true, api.OK)
	wantMatch(t, tup(append(all, just(atom("a")))...), tuple(append(l, atom("b"))...), nil, false, api.OK)
}

// wrongTerms are terms that may not be, and what layer 3 tells of them.
func wrongTerms() []struct {
	t api.Term
	e api.Errno
} {
	return []struct {
		t api.Term
		e api.Errno
	}{
		{api.Term{}, api.ErrTerm}, {api.Term{Kind: 10}, api.ErrTerm}, {in(api.MaxInt + 1), api.ErrTerm}, {truth(2), api.ErrTerm}, {atom("nil"), api.ErrTerm}, {ref(0), api.ErrTerm}, {api.Term{Kind: api.KindComplex, C: complex(0, math.NaN())}, api.ErrTerm},
		{tuple(in(1), api.Term{}), api.ErrTerm}, {list(in(1), atom("")), api.ErrTerm}, {manyTerms(1025), api.ErrParts}, {deepTerm(64), api.ErrParts}, {endlessTerm(api.KindList), api.ErrParts}, {endlessTerm(api.KindTuple), api.ErrParts},
	}
}

func TestPa2WrongTerms(t *testing.T) {
	for _, x := range wrongTerms() {
		for _, p := range []api.Pattern{whatever(), local(0), just(in(1)), some(api.KindInt), tup(), tup(just(in(1)), whatever()), lst(), ahead(whatever()), ahead(local(0), whatever())} {
			wantMatch(t, p, x.t, nil, false, x.e)
			wantFirst(t, []api.Term{x.t}, 0, []api.Pattern{p}, 0, 0, nil, x.e)
		}
		wantMatch(t, api.Pattern{}, x.t, nil, false, api.ErrPattern)
		wantMatch(t, within(64, whatever(), wraps()[0]), x.t, nil, false, api.ErrParts)
		wantFirst(t, []api.Term{in(1), in(2), x.t}, 0, []api.Pattern{whatever()}, 0, 0, nil, x.e)
		wantFirst(t, []api.Term{x.t, in(2)}, 1, []api.Pattern{whatever()}, 0, 0, nil, x.e)
		wantFirst(t, []api.Term{x.t}, -1, nil, 0, 0, nil, x.e)
		wantFirst(t, []api.Term{x.t}, 5, nil, 0, 0, nil, x.e)
		wantFirst(t, []api.Term{x.t}, 0, []api.Pattern{{}}, 0, 0, nil, api.ErrPattern)
	}
}

func TestPa2First(t *testing.T) {
	l := []api.Term{readTerm(t, "a"), readTerm(t, "{ping, 1}"), readTerm(t, "{pong}"), readTerm(t, "{ping, 2}"), readTerm(t, "a")}
	for _, x := range []struct {
		from    int
		ps      []string
		at, arm int
		binds   string
	}{
		{0, []string{"{pong}", "{ping, _}"}, 1, 1, ""}, {0, []string{"{ping, _}", "{pong}"}, 1, 0, ""}, {1, []string{"{pong}", "{ping, $3}"}, 1, 1, "$3=1"}, {2, []string{"{pong}", "{ping, $3}"}, 2, 0, ""}, {3, []string{"{pong}", "{ping, $3}"}, 3, 1, "$3=2"},
		{0, []string{"a"}, 0, 0, ""}, {1, []string{"a"}, 4, 0, ""}, {4, []string{"a"}, 4, 0, ""}, {0, []string{"_"}, 0, 0, ""}, {4, []string{"$0"}, 4, 0, "$0=a"}, {3, []string{"b", "c", "$1"}, 3, 2, "$1={ping, 2}"},
		// Of two that match the first one is told, though the other binds, or binds more.
		{1, []string{"{$0, $1}", "{ping, $2}"}, 1, 0, "$0=ping $1=1"}, {1, []string{"{ping, $2}", "{$0, $1}"}, 1, 0, "$2=1"}, {1, []string{"b", "_", "$0"}, 1, 1, ""}, {0, []string{"$0", "$0"}, 0, 0, "$0=a"}, {0, []string{"{$0, 3}", "{$0, 2}"}, 3, 1, "$0=ping"},
	} {
		var ps []api.Pattern
		for _, s := range x.ps {
			ps = append(ps, read(t, s))
		}
		wantFirst(t, l, x.from, ps, x.at, x.arm, bound(t, x.binds), api.OK)
	}
}

func TestPa2FirstOfNone(t *testing.T) {
	l := []api.Term{atom("a"), atom("b"), atom("c")}
	all, none := []api.Pattern{whatever()}, []api.Pattern{just(atom("d")), tup(local(0))}
	for _, from := range []int{0, 1, 2} {
		wantFirst(t, l, from, all, from, 0, nil, api.OK)
	}
	for _, from := range []int{3, 4, 1 << 32, most} {
		wantFirst(t, l, from, all, 0, 0, nil, api.ErrNone)
	}
	for _, from := range []int{0, 1, 3, most} {
		wantFirst(t, l, from, none, 0, 0, nil, api.ErrNone)
		wantFirst(t, l, from, nil, 0, 0, nil, api.ErrNone)
		wantFirst(t, nil, from, all, 0, 0, nil, api.ErrNone)
		wantFirst(t, nil, from, nil, 0, 0, nil, api.ErrNone)
		wantFirst(t, []api.Term{}, from, []api.Pattern{}, 0, 0, nil, api.ErrNone)
	}
	for _, from := range []int{-1, -2, least} {
		wantFirst(t, l, from, all, 0, 0, nil, api.ErrArg)
		wantFirst(t, l, from, none, 0, 0, nil, api.ErrArg)
		wantFirst(t, nil, from, nil, 0, 0, nil, api.ErrArg)
		wantFirst(t, l, from, []api.Pattern{{}}, 0, 0, nil, api.ErrPattern)
	}
	wantFirst(t, l, 1, []api.Pattern{just(atom("a"))}, 0, 0, nil, api.ErrNone)
}

// Patterns are asked one by one, then terms, then the place.
func TestPa2FirstWhichErrorOfTwo(t *testing.T) {
	bad, deep, wrong, wide := api.Pattern{}, within(64, whatever(), wraps()[0]), api.Term{}, manyTerms(1025)
	wantFirst(t, nil, 0, []api.Pattern{bad, deep}, 0, 0, nil, api.ErrPattern)
	wantFirst(t, nil, 0, []api.Pattern{whatever(), deep, bad}, 0, 0, nil, api.ErrParts)
	wantFirst(t, []api.Term{wrong, wide}, 0, []api.Pattern{whatever()}, 0, 0, nil, api.ErrTerm)
	wantFirst(t, []api.Term{in(1), wide, wrong}, 0, []api.Pattern{whatever()}, 0, 0, nil, api.ErrParts)
	wantFirst(t, []api.Term{wrong}, -1, []api.Pattern{deep}, 0, 0, nil, api.ErrParts)
	wantFirst(t, []api.Term{wrong}, -1, []api.Pattern{whatever()}, 0, 0, nil, api.ErrTerm)
	wantFirst(t, []api.Term{wide}, -1, nil, 0, 0, nil, api.ErrParts)
	wantFirst(t, []api.Term{in(1)}, -1, []api.Pattern{whatever(), local(32)}, 0, 0, nil, api.ErrPattern)
}

// What stands behind a list's end is none of it, nothing that is handed in is changed, and lists of an answer are its own.
func TestR3MatchAndFirst(t *testing.T) {
	room := []api.Term{atom("a"), atom("b"), atom("c"), {Kind: 99}, endlessTerm(api.KindList)}
	ps := []api.Pattern{just(atom("a")), local(0), local(1), {Kind: 99}}
	x, p := list(room[:3]...), api.Pattern{Kind: api.PatList, L: ps[:1], Rest: ps[1:2]}
	for range 2 {
		binds, ok, e := pattern.Match(p, x)
		if !ok || e != api.OK || !sameBinds(binds, []api.Bind{{Local: 0, Term: list(atom("b"), atom("c"))}}) {
			t.Fatal("Match:", binds, ok, e)
		}
		spoil(binds[0].Term.L)
		spoil(binds)
	}
	wantMatch(t, api.Pattern{Kind: api.PatList, L: ps[:1], Rest: ps[:0]}, x, nil, false, api.OK)
	wantMatch(t, tup(ps[1:3]...), tuple(room[1:3]...), []api.Bind{{Local: 0, Term: atom("b")}, {Local: 1, Term: atom("c")}}, true, api.OK)
	wantFirst(t, room[:3], 1, ps[:1], 0, 0, nil, api.ErrNone)
	wantFirst(t, room[:3], 1, ps[1:3], 1, 0, []api.Bind{{Local: 0, Term: atom("b")}}, api.OK)
	wantFirst(t, room[:1], 1, ps[:2], 0, 0, nil, api.ErrNone)
	for n, name := range []string{"a", "b", "c"} {
		if !sameTerm(room[n], atom(name)) || room[3].Kind != 99 || len(room[4].L) != 1 || ps[3].Kind != 99 || !same(ps[1], local(0)) {
			t.Error("what was handed in was changed:", room[:4], ps)
		}
	}
}

// A rest that is answered is new memory: what is done to it the term does not see, nor another answer.
func TestR3RestsAreNew(t *testing.T) {
	x := readTerm(t, "[1, 2, 3]")
	p := read(t, "[1 | $0]")
	a, _, _ := pattern.Match(p, x)
	_, _, b, _ := pattern.First([]api.Term{x}, 0, []api.Pattern{p})
	spoil(a[0].Term.L)
	if !sameTerm(x, readTerm(t, "[1, 2, 3]")) || !sameBinds(b, bound(t, "$0=[2, 3]")) {
		t.Error("a rest is shared:", x, b)
	}
}
