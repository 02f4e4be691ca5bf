package box_test

import (
	"reflect"
	"runtime"
	"slices"
	"testing"
	"weak"

	"carousel/api"
	"carousel/box"
)

// notGiven are boxes that neither New nor Load nor Copy gave.
func notGiven(t *testing.T) map[string]*box.Box {
	t.Helper()
	byHand, empty := *told(t, "a; b", "c", 1, 1).load(t), *box.New()
	refused, _ := box.Load(nil, nil, [2]int{1, 0})
	var none *box.Box
	return map[string]*box.Box{"nil": nil, "zero": {}, "copied by hand": &byHand, "an empty one copied by hand": &empty, "refused by Load": refused, "a copy of nil": none.Copy(), "a copy of one copied by hand": byHand.Copy()}
}

func TestR1OfBoxesThatWereNotGiven(t *testing.T) {
	for name, b := range notGiven(t) {
		for range 2 {
			for _, lane := range append(noLanes(), 0, 1) {
				want(t, name+": Put", b.Put(lane, atom("a")), api.ErrArg)
				want(t, name+": Put of a wrong term", b.Put(lane, endless()), api.ErrArg)
				if n, l := b.Len(lane), b.Lane(lane); n != 0 || len(l) != 0 {
					t.Errorf("%s: of the lane %d: %d, %s", name, lane, n, show(l...))
				}
			}
			wantNoRecv(t, b, nil, api.ErrArg)
			wantNoRecv(t, b, anything(), api.ErrArg)
			for _, x := range wrongPatterns() {
				wantNoRecv(t, b, []api.Pattern{x.p}, api.ErrArg)
			}
			b.Reset()
			if b.Marks() != [2]int{} || b.Copy() != nil {
				t.Error(name, b.Marks(), b.Copy())
			}
		}
	}
}

// A box goes on as it did when a struct that was copied of it by hand is used.
func TestR1CopiedByHandChangesNothing(t *testing.T) {
	s := told(t, "a; b", "c", 1, 1)
	b := s.load(t)
	c := *b
	c.Reset()
	c.Recv(anything())
	c.Put(0, atom("x"))
	holds(t, b, s)
	wantRecv(t, b, anything(), atom("b"), 0)
}

// What Load was given is its giver's: what is written over it, or behind its end, is not seen, and the box writes nothing there.
func TestR3LoadKeepsItsOwn(t *testing.T) {
	for _, s := range states(t) {
		var lists, before [2][]api.Term
		for i, l := range s.lanes {
			lists[i] = roomy(l, in(-7), api.Term{}, in(-8))
			before[i] = slices.Clone(lists[i][:cap(lists[i])])
		}
		b, e := box.Load(lists[0], lists[1], s.marks)
		want(t, "Load", e, api.OK)
		c, other := b.Copy(), modelOf(b)
		for range 3 {
			for _, d := range deeds(t) {
				both(t, c, other, d)
			}
		}
		for i, l := range lists {
			if !sameTerms(l[:cap(l)], before[i]) {
				t.Error("a list that was handed in is changed:", show(l[:cap(l)]...))
			}
			scribble(l, scribbled())
		}
		holds(t, b, s)
		m := modelOf(b)
		for range 3 {
			for _, d := range deeds(t) {
				both(t, b, m, d)
			}
		}
		for _, l := range lists {
			for _, x := range l[:cap(l)] {
				if !same(x, scribbled()) {
					t.Error("the box writes into a list that was handed in:", show(x))
				}
			}
		}
	}
}

// Both lists may be pieces of one list: the box's are not.
func TestR3LoadOfListsThatShare(t *testing.T) {
	l := row(0, 9)
	b := stateOf(l[:4], l[2:6], 1, 2).load(t)
	c := stateOf(l, l, 0, 0).load(t)
	want(t, "Put", b.Put(0, atom("x")), api.OK)
	wantRecv(t, b, []api.Pattern{just(in(2))}, in(2), 0)
	want(t, "Put", b.Put(1, atom("y")), api.OK)
	holds(t, b, stateOf([]api.Term{in(0), in(1), in(3), atom("x")}, append(row(2, 4), atom("y")), 0, 0))
	wantRecv(t, c, []api.Pattern{just(in(4))}, in(4), 0)
	holds(t, c, stateOf(slices.Concat(row(0, 4), row(5, 4)), row(0, 9), 0, 0))
	if !sameTerms(l, row(0, 9)) {
		t.Error("the list is changed:", show(l...))
	}
}

// What Lane tells is its asker's: it may be written over and appended to, and does not change with the box.
func TestR3LaneIsItsOwn(t *testing.T) {
	for _, s := range states(t) {
		for lane := range 2 {
			b := s.load(t)
			b.Put(lane, in(-1)) // so that there may be spare room
			s := stateOf(b.Lane(0), b.Lane(1), b.Marks()[0], b.Marks()[1])
			first, second := b.Lane(lane), b.Lane(lane)
			scribble(append(first, scribbled()), scribbled())
			scribble(first, scribbled())
			holds(t, b, s)
			if !sameTerms(second, s.lanes[lane]) {
				t.Error("two answers share memory:", show(second...))
			}
			m := modelOf(b)
			for range 3 {
				for _, d := range deeds(t) {
					both(t, b, m, d)
				}
			}
			if !sameTerms(second, s.lanes[lane]) {
				t.Error("an answer changes with the box:", show(second...))
			}
			for _, x := range first[:cap(first)] {
				if !same(x, scribbled()) {
					t.Error("the box writes into an answer:", show(x))
				}
			}
		}
	}
}

// What Recv tells is its asker's, and what it was told is, too: neither is changed by what comes later.
func TestR3Recv(t *testing.T) {
	message := terms(t, "{[1, 2, 3], 4}")[0]
	s := stateOf([]api.Term{message, message}, []api.Term{message, message}, 0, 0)
	b := s.load(t)
	ps := roomy(pats(t, "zz; {[1 | $0], $1}"), whatever(), api.Pattern{})
	before := slices.Clone(ps[:cap(ps)])
	binds := []api.Bind{{Local: 0, Term: list(in(2), in(3))}, {Local: 1, Term: in(4)}}
	var kept [][]api.Bind
	for n := range 4 {
		x, arm, l, e := b.Recv(ps)
		if !same(x, message) || arm != 1 || !sameBinds(l, binds) || e != api.OK {
			t.Fatal(n, show(x), arm, l, e)
		}
		if n%2 == 0 {
			scribble(append(l, api.Bind{Local: 9, Term: scribbled()}), api.Bind{Local: 9, Term: scribbled()})
			scribble(l, api.Bind{Local: 9, Term: scribbled()})
		} else {
			kept = append(kept, l)
		}
		s = s.without(n/2, 0)
		holds(t, b, s)
	}
	for _, l := range kept {
		if !sameBinds(l, binds) {
			t.Error("the binds change with the box:", l)
		}
	}
	if !reflect.DeepEqual(before, ps[:cap(ps)]) {
		t.Error("the patterns are changed")
	}
}

// Patterns behind the end of their list are not looked at, whatever they are; they are not kept for the next Recv, either.
func TestR3PatternsBehindTheEnd(t *testing.T) {
	b := told(t, "a", "b", 0, 0).load(t)
	for _, behind := range []api.Pattern{whatever(), {}} {
		for n := range 3 {
			ps := roomy(pats(t, "y; z")[:min(n, 2)], behind)
			b.Reset()
			wantNoRecv(t, b, ps, api.ErrNone)
			holds(t, b, told(t, "a", "b", 1, 1))
			scribble(ps, whatever())
		}
	}
	b.Reset()
	wantNoRecv(t, b, pats(t, "z"), api.ErrNone)
}

// Messages behind the end of their list are not there, neither as too many nor as wrong ones.
func TestR3MessagesBehindTheEnd(t *testing.T) {
	for lane := range 2 {
		var s state
		s.lanes[lane] = roomy(row(0, 256), in(1), api.Term{}, endless())
		b := s.load(t)
		holds(t, b, s)
		want(t, "Put", b.Put(lane, in(1)), api.ErrMail)
		s.lanes[lane] = roomy(row(0, 2), api.Term{}, endless())
		b = s.load(t)
		holds(t, b, s)
		s.marks[lane] = 3
		wantNoLoad(t, s, api.ErrArg)
	}
}

// A box and its copy go their own ways, whatever is done to either.
func TestR4Copy(t *testing.T) {
	ds := deeds(t)
	for _, s := range states(t) {
		for k := range ds {
			b := s.load(t)
			c := b.Copy()
			if c == nil || c == b {
				t.Fatal("Copy:", c, b)
			}
			holds(t, c, s)
			m, n := modelOf(b), modelOf(c)
			for i := range ds {
				both(t, b, m, ds[i])
				both(t, c, n, ds[(i*7+k)%len(ds)])
				holds(t, b, m.state())
				holds(t, c, n.state())
			}
		}
	}
}

// Copies of a box with spare room: what is put into each is that one's alone.
func TestR4CopiesWithRoom(t *testing.T) {
	b := box.New()
	for k := range 5 {
		b.Put(0, in(k))
		b.Put(1, in(10+k))
	}
	s := stateOf(row(0, 5), row(10, 5), 0, 0)
	c := b.Copy()
	other := c.Copy()
	for lane := range 2 {
		want(t, "Put", b.Put(lane, atom("b")), api.OK)
		want(t, "Put", c.Put(lane, atom("c")), api.OK)
		want(t, "Put", other.Put(lane, atom("d")), api.OK)
	}
	holds(t, b, s.with(0, atom("b")).with(1, atom("b")))
	holds(t, c, s.with(0, atom("c")).with(1, atom("c")))
	holds(t, other, s.with(0, atom("d")).with(1, atom("d")))
	holds(t, box.New().Copy(), state{})
}

func TestR4BoxesKnowNothingOfOneAnother(t *testing.T) {
	b, c := box.New(), box.New()
	if b == c {
		t.Fatal("New gives one box twice")
	}
	m, n := &model{}, &model{}
	var d draw = 3
	for i := range 3000 {
		both(t, b, m, d.deed(t, i/300, i))
		both(t, c, n, d.deed(t, i/400, i))
		holds(t, b, m.state())
	}
}

// What has gone out is not kept: nothing asks for it any more.
func TestWhatHasGoneOutIsNotKept(t *testing.T) {
	for lane := range 2 {
		for ahead := range 3 {
			for behind := range 3 {
				b := box.New()
				for k := range ahead {
					b.Put(lane, in(k))
				}
				l := []api.Term{in(1), in(2)}
				seen := weak.Make(&l[0])
				b.Put(lane, list(l...))
				l = nil
				for k := range behind {
					b.Put(lane, in(10+k))
				}
				want(t, "Recv", recvOf(b, pats(t, "[_, _]")), api.OK)
				runtime.GC()
				if seen.Value() != nil {
					t.Errorf("with %d ahead and %d behind it a message that has gone out is kept", ahead, behind)
				}
				runtime.KeepAlive(b)
			}
		}
	}
}

// recvOf is what Recv tells beside what it takes out.
func recvOf(b *box.Box, ps []api.Pattern) api.Errno {
	_, _, _, e := b.Recv(ps)
	return e
}
