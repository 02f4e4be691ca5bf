package box_test

import (
	"slices"
	"testing"

	"carousel/api"
	"carousel/box"
)

// Of two boxes with the same calls one has its marks set back ahead of each Recv: as long as the patterns are the same both tell the same.
func TestP123MarksOnlySaveWork(t *testing.T) {
	var d draw = 5
	found, none, marked := 0, 0, 0
	for run := range 400 {
		a := box.New()
		for k := range d.below(40) {
			a.Put(d.below(2), d.message(k))
		}
		b, ps := a.Copy(), d.patterns(t)
		for k := range 60 {
			if d.below(3) > 0 {
				lane, x := d.below(2), d.message(1000+k)
				want(t, "Put", a.Put(lane, x), b.Put(lane, x))
				continue
			}
			if b.Marks() != [2]int{} {
				marked++
			}
			a.Reset()
			x, arm, binds, e := a.Recv(ps)
			if e == api.OK {
				found++
				wantRecv(t, b, ps, x, arm, binds...)
			} else {
				none++
				wantNoRecv(t, b, ps, e)
			}
			holds(t, b, stateOf(a.Lane(0), a.Lane(1), a.Marks()[0], a.Marks()[1]))
			if t.Failed() {
				t.Fatal("in the run", run)
			}
		}
	}
	if min(found, none, marked) < 500 {
		t.Error("the runs come too seldom to something:", found, none, marked)
	}
}

// As long as nothing that is wanted comes, Recv tells none, however often it is told the same patterns; what comes then is found, in either lane.
func TestP123WhatComesBehindTheMarks(t *testing.T) {
	for lane := range 2 {
		for n := range 70 {
			b, ps := stateOf(row(0, n), row(100, n), 0, 0).load(t), pats(t, "{x, $0}; x")
			for k := range 20 {
				wantNoRecv(t, b, ps, api.ErrNone)
				want(t, "Put", b.Put(1-lane, in(200+k)), api.OK)
			}
			want(t, "Put", b.Put(lane, atom("x")), api.OK)
			wantRecv(t, b, ps, atom("x"), 1)
			wantNoRecv(t, b, ps, api.ErrNone)
			if b.Len(lane) != n || b.Len(1-lane) != n+20 || b.Marks() != [2]int{b.Len(0), b.Len(1)} {
				t.Fatal(b.Len(0), b.Len(1), b.Marks())
			}
		}
	}
}

// Each message has a number of its own. Whatever is asked for: it is taken out once, or it is there; what is left stands in the order in which it was put.
func TestP124NothingLostNothingTwice(t *testing.T) {
	for seed := range 20 {
		d := draw(seed)
		b := box.New()
		var left [2][]api.Term
		out := map[int]bool{}
		for n := range 3000 {
			if d.below(5) < 2+n/500%2 {
				lane := d.below(2)
				x := tuple(atom(string(rune('a'+d.below(4)))), in(n))
				if b.Put(lane, x) == api.OK {
					left[lane] = append(left[lane], x)
				}
				continue
			}
			x, _, _, e := b.Recv(d.patterns(t))
			if d.below(3) == 0 {
				b.Reset()
			}
			if e == api.OK {
				number := x.L[1].N
				if out[number] {
					t.Fatal("taken out twice:", number)
				}
				out[number] = true
				isNumber := func(y api.Term) bool { return y.L[1].N == number }
				before := len(left[0]) + len(left[1])
				left[0], left[1] = slices.DeleteFunc(left[0], isNumber), slices.DeleteFunc(left[1], isNumber)
				if len(left[0])+len(left[1]) != before-1 {
					t.Fatal("taken out and not put:", number)
				}
			}
			if !sameTerms(b.Lane(0), left[0]) || !sameTerms(b.Lane(1), left[1]) {
				t.Fatal("lost, or out of order:", show(b.Lane(0)...), show(b.Lane(1)...))
			}
		}
		if len(out) < 200 {
			t.Error("too few were taken out:", len(out))
		}
	}
}

// With a pattern that matches everything messages come in order, the system lane's ahead, whichever lane each was put into.
func TestP124AllInOrder(t *testing.T) {
	for _, n := range []int{1, 2, 3, 10, 256} {
		for seed := range 5 {
			d := draw(seed)
			b := box.New()
			var lanes [2][]api.Term
			for k := 0; len(lanes[0]) < n || len(lanes[1]) < n; k++ {
				if lane := d.below(2); len(lanes[lane]) < n {
					want(t, "Put", b.Put(lane, in(k)), api.OK)
					lanes[lane] = append(lanes[lane], in(k))
				}
			}
			for _, x := range slices.Concat(lanes[0], lanes[1]) {
				wantRecv(t, b, pats(t, "b; $7"), x, 1, api.Bind{Local: 7, Term: x})
			}
			wantNoRecv(t, b, anything(), api.ErrNone)
			holds(t, b, state{})
		}
	}
}

// A message in the system lane that comes while the user lane is being emptied goes out next.
func TestP124SystemAhead(t *testing.T) {
	b := stateOf(nil, row(0, 100), 0, 0).load(t)
	for k := range 100 {
		wantRecv(t, b, anything(), in(k), 0)
		for n := range k % 3 {
			want(t, "Put", b.Put(0, in(1000+n)), api.OK)
		}
		for n := range k % 3 {
			wantRecv(t, b, anything(), in(1000+n), 0)
		}
	}
	holds(t, b, state{})
}
