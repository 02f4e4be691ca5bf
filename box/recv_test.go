package box_test

import (
	"slices"
	"testing"

	"carousel/api"
	"carousel/box"
)

func TestP121Examples(t *testing.T) {
	b, ping := box.New(), pats(t, "{ping, _}")
	one, two := terms(t, "{ping, 1}")[0], terms(t, "{ping, 2}")[0]
	want(t, "Put", b.Put(api.LaneUser, atom("a")), api.OK)
	want(t, "Put", b.Put(api.LaneUser, one), api.OK)
	wantRecv(t, b, ping, one, 0)
	holds(t, b, told(t, "", "a", 0, 0))
	wantNoRecv(t, b, ping, api.ErrNone)
	holds(t, b, told(t, "", "a", 0, 1))
	want(t, "Put", b.Put(api.LaneUser, two), api.OK)
	holds(t, b, told(t, "", "a; {ping, 2}", 0, 1))
	wantRecv(t, b, ping, two, 0)
	holds(t, b, told(t, "", "a", 0, 0))
	wantNoRecv(t, b, ping, api.ErrNone)
	wantNoRecv(t, b, pats(t, "a"), api.ErrNone) // it was looked at
	holds(t, b, told(t, "", "a", 0, 1))
	b.Reset()
	holds(t, b, told(t, "", "a", 0, 0))
	wantRecv(t, b, pats(t, "a"), atom("a"), 0)
	holds(t, b, state{})
	want(t, "Put", b.Put(api.LaneSystem, atom("x")), api.OK)
	want(t, "Put", b.Put(api.LaneUser, atom("y")), api.OK)
	wantRecv(t, b, anything(), atom("x"), 0)
	wantRecv(t, b, anything(), atom("y"), 0)
	wantNoRecv(t, b, anything(), api.ErrNone)
	holds(t, b, state{})
}

// take is a Recv that takes a message out: what the box is ahead of it, the patterns, which message of which lane, by which of the patterns, with which binds.
type take struct {
	system, user string
	s, u         int
	ps           string
	lane, at     int
	arm          int
	binds        string // the locals 0, 1 and so on, in this order
}

func takes() []take {
	return []take{
		// The system lane's messages stand ahead of the user lane's.
		{"x", "y", 0, 0, "_", 0, 0, 0, ""}, {"x", "y", 0, 0, "x; y", 0, 0, 0, ""}, {"x", "y", 0, 0, "y; x", 0, 0, 1, ""}, {"x", "y", 0, 0, "y", 1, 0, 0, ""}, {"a; b; x", "x; y", 0, 0, "x; y", 0, 2, 0, ""}, {"a; b", "c; x; y", 0, 0, "y; x", 1, 1, 1, ""}, {"a; b; c", "a; b; c", 0, 0, "c", 0, 2, 0, ""},
		// The first message that some pattern matches, though a pattern that stands ahead matches one that stands behind.
		{"", "a; b", 0, 0, "b; a", 1, 0, 1, ""}, {"", "a; b; c", 0, 0, "c; b", 1, 1, 1, ""}, {"a; b; c", "", 0, 0, "d; c; b", 0, 1, 2, ""}, {"c", "a; b", 0, 0, "b; a", 1, 0, 1, ""}, {"", "z; z; a; b; a", 0, 0, "b; a", 1, 2, 1, ""},
		// The first of the patterns that match it.
		{"", "a", 0, 0, "_; a", 1, 0, 0, ""}, {"", "a", 0, 0, "a; _", 1, 0, 0, ""}, {"", "a", 0, 0, "b; _; a", 1, 0, 1, ""}, {"a", "", 0, 0, "b; c; a; a; _", 0, 0, 2, ""}, {"", "{a, 1}", 0, 0, "{b, $0}; {$0, 2}; {$0, $1}; {a, $0}", 1, 0, 2, "a; 1"}, {"", "5", 0, 0, ":atom; :int; $0", 1, 0, 1, ""}, {"", "5", 0, 0, ":atom; $0; :int", 1, 0, 1, "5"},
		// The eldest of messages that are the same.
		{"", "a; b; a; b; a", 0, 0, "b", 1, 1, 0, ""}, {"b; a; a", "a", 0, 0, "a", 0, 1, 0, ""},
		// The binds.
		{"", "{ping, 7}", 0, 0, "{ping, $0}", 1, 0, 0, "7"}, {"", "a; [1, 2, 3]", 0, 0, "[1, $0 | $1]", 1, 1, 0, "2; [3]"}, {"{exit, <3.1>, oops}", "", 0, 0, "{exit, $0, $1}", 0, 0, 0, "<3.1>; oops"}, {"", "{1, {2, [3+4i]}}", 0, 0, "{$0, {$1, $2}}", 1, 0, 0, "1; 2; [3+4i]"}, {"", "{a, 1}; {b, 2}", 0, 0, "{b, $0}", 1, 1, 0, "2"}, {"{a, 1}", "{b, 2}", 0, 0, "{b, $0}; {c, $0}", 1, 0, 0, "2"},
		// A message of each kind.
		{"", "nil; true; 5; 3-2i; a; <1.2>; #3; {}; []", 0, 0, "[]", 1, 8, 0, ""}, {"nil; true; 5; 3-2i; a; <1.2>; #3; {}; []", "", 0, 0, ":tuple", 0, 7, 0, ""}, {"nil; true; 5; 3-2i; a; <1.2>; #3; {}; []", "", 0, 0, "#3; <1.2>", 0, 5, 1, ""}, {"", "nil; false; 5; 3-2i", 0, 0, "3-2i", 1, 3, 0, ""}, {"", "5; 5+0i", 0, 0, "5+0i", 1, 1, 0, ""},
		// What stands ahead of a mark is not looked at.
		{"a; a; a", "", 1, 0, "a", 0, 1, 0, ""}, {"a; a; a", "", 2, 0, "a", 0, 2, 0, ""}, {"a; a; a", "a; a", 3, 0, "a", 1, 0, 0, ""}, {"a; a; a", "a; a", 3, 1, "a", 1, 1, 0, ""}, {"a; b", "b", 1, 0, "a; b", 0, 1, 1, ""}, {"b", "a; b; c", 0, 3, "a; b", 0, 0, 1, ""}, {"b", "a; b; c", 1, 2, "_", 1, 2, 0, ""}, {"", "{a, 1}; {a, 2}", 0, 1, "{a, $0}", 1, 1, 0, "2"},
	}
}

func TestP121RecvTakes(t *testing.T) {
	for _, x := range takes() {
		s := told(t, x.system, x.user, x.s, x.u)
		b := s.load(t)
		var binds []api.Bind
		for i, y := range terms(t, x.binds) {
			binds = append(binds, api.Bind{Local: i, Term: y})
		}
		wantRecv(t, b, pats(t, x.ps), s.lanes[x.lane][x.at], x.arm, binds...)
		holds(t, b, s.without(x.lane, x.at))
	}
}

// The binds stand in the order in which the locals stand in the pattern, not by their numbers.
func TestP121RecvOrderOfBinds(t *testing.T) {
	b := told(t, "", "{1, 2, [3, 4]}", 0, 0).load(t)
	binds := []api.Bind{{Local: 31, Term: in(1)}, {Local: 4, Term: in(2)}, {Local: 9, Term: in(3)}, {Local: 0, Term: list(in(4))}}
	wantRecv(t, b, pats(t, "{$31, $4, [$9 | $0]}"), terms(t, "{1, 2, [3, 4]}")[0], 0, binds...)
}

// A Recv that finds none: what the box is ahead of it, and the patterns.
func TestP121RecvFindsNone(t *testing.T) {
	rows := []struct {
		system, user string
		s, u         int
		ps           string
	}{
		{"", "", 0, 0, "_"}, {"", "", 0, 0, "a; b"}, {"", "", 0, 0, ""}, {"a", "", 0, 0, "b"}, {"", "a", 0, 0, "b"}, {"a; b; c", "d; e", 0, 0, "f; g; {_}"}, {"a; b; c", "d; e", 0, 0, ""}, {"a", "", 0, 0, ""}, {"", "a", 0, 0, ""},
		{"a", "", 1, 0, "a"}, {"", "a", 0, 1, "a"}, {"a; b; c", "d; e", 3, 2, "_"}, {"a; b; c", "d; e", 3, 2, ""}, {"a; b; c", "d; e", 1, 1, "a; d"}, {"a; b; c", "d; e", 2, 0, "a; b"}, {"a; b; c", "d; e", 0, 1, "d"},
		{"[1]; {1}", "1; 1+0i", 0, 0, "[]; {}; []; 2; [1, 1]; [2 | _]"},
	}
	for _, x := range rows {
		s := told(t, x.system, x.user, x.s, x.u)
		b := s.load(t)
		for range 2 {
			wantNoRecv(t, b, pats(t, x.ps), api.ErrNone)
			holds(t, b, s.searched())
		}
	}
}

// Of two lanes with five messages each, and every two marks, the first message behind the marks is taken, and both marks are set back.
func TestP121RecvBehindEachMark(t *testing.T) {
	for n := range 6 {
		for m := range 6 {
			s := stateOf(row(10, 5), row(20, 5), n, m)
			b := s.load(t)
			switch {
			case n < 5:
				wantRecv(t, b, anything(), in(10+n), 0)
				holds(t, b, s.without(0, n))
			case m < 5:
				wantRecv(t, b, anything(), in(20+m), 0)
				holds(t, b, s.without(1, m))
			default:
				wantNoRecv(t, b, anything(), api.ErrNone)
				holds(t, b, s)
			}
		}
	}
}

// A message that one asks for by itself is found at its place just if it does not stand ahead of the mark; what is left stands in its order.
func TestP121RecvFromEachPlace(t *testing.T) {
	for _, n := range []int{1, 2, 3, 7, 8, 33} {
		for lane := range 2 {
			for mark := range n + 1 {
				for at := range n {
					var s state
					s.lanes[lane], s.lanes[1-lane] = row(100, n), row(200, 3)
					s.marks[lane], s.marks[1-lane] = mark, 2
					b := s.load(t)
					if ps := []api.Pattern{just(in(-1)), just(in(100 + at))}; at < mark {
						wantNoRecv(t, b, ps, api.ErrNone)
						holds(t, b, s.searched())
					} else {
						wantRecv(t, b, ps, in(100+at), 1)
						holds(t, b, s.without(lane, at))
					}
				}
			}
		}
	}
}

// Likewise of lanes that are full.
func TestP121RecvFromAFullLane(t *testing.T) {
	for lane := range 2 {
		for _, mark := range []int{0, 1, 2, 100, 254, 255, 256} {
			for at := range api.MaxMail {
				s := stateOf(row(0, 256), row(0, 256), 256, 256)
				s.marks[lane] = mark
				b := s.load(t)
				if ps := []api.Pattern{just(in(at))}; at < mark {
					wantNoRecv(t, b, ps, api.ErrNone)
					holds(t, b, s.searched())
				} else {
					wantRecv(t, b, ps, in(at), 0)
					holds(t, b, s.without(lane, at))
				}
			}
		}
	}
}

// Each message of a lane goes out, the middle one of what is left first each time.
func TestP121RecvTillNothingIsLeft(t *testing.T) {
	for lane := range 2 {
		var s state
		s.lanes[lane] = row(0, api.MaxMail)
		b := s.load(t)
		for n := api.MaxMail; n > 0; n-- {
			x := s.lanes[lane][n/2]
			wantRecv(t, b, []api.Pattern{just(x)}, x, 0)
			s = s.without(lane, n/2)
			holds(t, b, s)
		}
		wantNoRecv(t, b, anything(), api.ErrNone)
		holds(t, b, state{})
	}
}

func TestP121RecvOfEachTerm(t *testing.T) {
	for lane := range 2 {
		for at, x := range rights() {
			var s state
			s.lanes[lane] = rights()
			s.marks[lane] = at
			b := s.load(t)
			wantRecv(t, b, []api.Pattern{local(31)}, x, 0, api.Bind{Local: 31, Term: x})
			holds(t, b, s.without(lane, at))
		}
	}
}

// There may be more patterns than a receive has arms.
func TestP121RecvManyPatterns(t *testing.T) {
	var ps []api.Pattern
	for n := range 5000 {
		ps = append(ps, just(in(n)))
	}
	s := stateOf(row(-3, 3), append(row(-9, 9), in(4999), in(33)), 0, 0)
	b := s.load(t)
	wantRecv(t, b, ps, in(4999), 4999)
	wantRecv(t, b, ps, in(33), 33)
	wantNoRecv(t, b, ps, api.ErrNone)
	holds(t, b, stateOf(row(-3, 3), row(-9, 9), 3, 9))
}

// What layer 5 refuses is told, whatever the box has, and changes nothing.
func TestP121RecvOfWrongPatterns(t *testing.T) {
	for _, s := range states(t) {
		b := s.load(t)
		for _, x := range wrongPatterns() {
			for _, ps := range [][]api.Pattern{{x.p}, {whatever(), x.p}, {x.p, whatever()}, {just(atom("zz")), x.p}, append(slices.Repeat(anything(), 40), x.p)} {
				wantNoRecv(t, b, ps, x.e)
				holds(t, b, s)
			}
		}
		for _, x := range wrongPatterns() {
			for _, y := range wrongPatterns() {
				wantNoRecv(t, b, []api.Pattern{whatever(), x.p, y.p}, x.e)
			}
		}
		holds(t, b, s)
	}
}

// A pattern may have as many locals, parts and as deep ones as layer 5 lets for MaxLocals.
func TestP121RecvOfPatternsAtTheLimits(t *testing.T) {
	deep := local(31)
	for range 63 {
		deep = tup(deep)
	}
	x, y := in(7), tuple(nulls(1023)...)
	for range 63 {
		x = tuple(x)
	}
	b := stateOf([]api.Term{x}, []api.Term{y}, 0, 0).load(t)
	wantRecv(t, b, []api.Pattern{tup(slices.Repeat(anything(), 1023)...), deep}, x, 1, api.Bind{Local: 31, Term: in(7)})
	wantRecv(t, b, []api.Pattern{tup(slices.Repeat(anything(), 1023)...), deep}, y, 0)
	holds(t, b, state{})
}

// Reset sets both marks back, and nothing besides.
func TestP121Reset(t *testing.T) {
	for _, s := range states(t) {
		b := s.load(t)
		for range 2 {
			b.Reset()
			r := s
			r.marks = [2]int{}
			holds(t, b, r)
		}
		wantNoRecv(t, b, pats(t, "zz"), api.ErrNone)
		holds(t, b, s.searched())
		b.Reset()
		switch {
		case len(s.lanes[0]) > 0:
			wantRecv(t, b, anything(), s.lanes[0][0], 0)
			holds(t, b, s.without(0, 0))
		case len(s.lanes[1]) > 0:
			wantRecv(t, b, anything(), s.lanes[1][0], 0)
			holds(t, b, s.without(1, 0))
		}
	}
}

// The marks behind each kind of call, one call behind the other.
func TestP121Marks(t *testing.T) {
	b := told(t, "a; b", "c; d; e", 0, 0).load(t)
	wantNoRecv(t, b, pats(t, "z"), api.ErrNone)
	holds(t, b, told(t, "a; b", "c; d; e", 2, 3))
	want(t, "Put", b.Put(0, atom("f")), api.OK)
	want(t, "Put", b.Put(1, atom("g")), api.OK)
	want(t, "Put into no lane", b.Put(2, atom("g")), api.ErrArg)
	want(t, "Put of a wrong term", b.Put(1, api.Term{}), api.ErrTerm)
	holds(t, b, told(t, "a; b; f", "c; d; e; g", 2, 3))
	wantNoRecv(t, b, []api.Pattern{{}}, api.ErrPattern)
	holds(t, b, told(t, "a; b; f", "c; d; e; g", 2, 3))
	wantNoRecv(t, b, pats(t, "a; b; c; d; e"), api.ErrNone) // other patterns, by which all was found with the marks at 0
	holds(t, b, told(t, "a; b; f", "c; d; e; g", 3, 4))
	want(t, "Put", b.Put(1, atom("h")), api.OK)
	wantRecv(t, b, pats(t, "f; g; h"), atom("h"), 2)
	holds(t, b, told(t, "a; b; f", "c; d; e; g", 0, 0))
	wantRecv(t, b, pats(t, "f; g; h"), atom("f"), 0)
	holds(t, b, told(t, "a; b", "c; d; e; g", 0, 0))
	wantNoRecv(t, b, nil, api.ErrNone)
	holds(t, b, told(t, "a; b", "c; d; e; g", 2, 4))
	want(t, "Put", b.Put(0, atom("i")), api.OK)
	wantRecv(t, b, anything(), atom("i"), 0) // the only one that was not looked at
	holds(t, b, told(t, "a; b", "c; d; e; g", 0, 0))
	wantRecv(t, b, anything(), atom("a"), 0)
	wantNoRecv(t, b, pats(t, "z"), api.ErrNone)
	b.Reset()
	holds(t, b, told(t, "b", "c; d; e; g", 0, 0))
}
