package box_test

import (
	"testing"

	"carousel/api"
	"carousel/box"
)

// None of the messages, of the marks and of the lanes is there of a box that is new.
func TestP122New(t *testing.T) {
	b := box.New()
	if b == nil {
		t.Fatal("New: nil")
	}
	holds(t, b, state{})
	b.Reset()
	wantNoRecv(t, b, anything(), api.ErrNone)
	holds(t, b, state{})
}

// Of no lane there are no messages, whatever there is.
func TestP122LenAndLaneOfNoLane(t *testing.T) {
	for _, s := range states(t) {
		b := s.load(t)
		for _, lane := range noLanes() {
			if n, l := b.Len(lane), b.Lane(lane); n != 0 || len(l) != 0 {
				t.Errorf("of the lane %d: %d, %s", lane, n, show(l...))
			}
		}
		holds(t, b, s)
	}
}

func TestP122Load(t *testing.T) {
	for _, s := range states(t) {
		holds(t, s.load(t), s)
	}
	for n := range 5 {
		for m := range 5 {
			for i := range n + 1 {
				for j := range m + 1 {
					s := stateOf(row(0, n), row(50, m), i, j)
					b := s.load(t)
					holds(t, b, s)
					want(t, "Put", b.Put(0, atom("x")), api.OK)
					want(t, "Put", b.Put(1, atom("y")), api.OK)
					holds(t, b, s.with(0, atom("x")).with(1, atom("y")))
					wantRecv(t, b, pats(t, "y"), atom("y"), 0)
					holds(t, b, stateOf(append(row(0, n), atom("x")), row(50, m), 0, 0))
				}
			}
		}
	}
	s := stateOf(rights(), rights(), 1, 2)
	holds(t, s.load(t), s)
}

func TestP122LoadOfMarks(t *testing.T) {
	for _, n := range []int{0, 1, 2, 255, 256} {
		for _, mark := range []int{least, -2, -1, 0, 1, n - 1, n, n + 1, n + 2, 257, most} {
			for lane := range 2 {
				for _, other := range []int{0, 3} {
					var s state
					s.lanes[lane], s.lanes[1-lane] = row(0, n), row(0, 3)
					s.marks[lane], s.marks[1-lane] = mark, other
					if mark >= 0 && mark <= n {
						holds(t, s.load(t), s)
					} else {
						wantNoLoad(t, s, api.ErrArg)
					}
				}
			}
		}
	}
	for _, marks := range [][2]int{{-1, -1}, {4, 4}, {4, -1}, {0, 4}, {-1, 3}, {3, 5}} {
		wantNoLoad(t, state{[2][]api.Term{row(0, 3), row(0, 3)}, marks}, api.ErrArg)
	}
	// A mark is held against its own lane's length.
	holds(t, stateOf(row(0, 1), row(0, 4), 1, 4).load(t), stateOf(row(0, 1), row(0, 4), 1, 4))
	wantNoLoad(t, stateOf(row(0, 1), row(0, 4), 4, 1), api.ErrArg)
	wantNoLoad(t, stateOf(row(0, 4), row(0, 1), 1, 4), api.ErrArg)
}

func TestP122LoadOfMany(t *testing.T) {
	for _, n := range []int{0, 1, 255, 256, 257, 258, 1000} {
		for _, m := range []int{0, 1, 255, 256, 257, 258, 1000} {
			s := stateOf(row(0, n), row(5000, m), 0, 0)
			if n <= api.MaxMail && m <= api.MaxMail {
				holds(t, s.load(t), s)
			} else {
				wantNoLoad(t, s, api.ErrMail)
			}
		}
	}
}

func TestP122LoadOfWrongTerms(t *testing.T) {
	for _, x := range wrongs() {
		for lane := range 2 {
			for _, n := range []int{1, 2, 5, 256} {
				for _, at := range []int{0, n / 2, n - 1} {
					var s state
					s.lanes[lane], s.lanes[1-lane] = row(0, n), row(0, 2)
					s.lanes[lane][at] = x.t
					wantNoLoad(t, s, x.e)
				}
			}
		}
	}
}

// Of several errors the first one is told: of too many messages ahead of a wrong one, of that ahead of a mark; of wrong messages that of the system lane, and in a lane that of the eldest.
func TestP122LoadOrderOfErrors(t *testing.T) {
	long, few := row(0, 257), row(0, 2)
	bad, big := []api.Term{in(1), {}}, []api.Term{in(1), endless()}
	both, turned := []api.Term{in(1), {}, endless()}, []api.Term{endless(), {}, in(1)}
	worst := append(row(0, 256), api.Term{})
	rows := []struct {
		system, user []api.Term
		marks        [2]int
		e            api.Errno
	}{
		{long, bad, [2]int{}, api.ErrMail}, {bad, long, [2]int{}, api.ErrMail}, {big, long, [2]int{}, api.ErrMail}, {long, long, [2]int{}, api.ErrMail}, {worst, nil, [2]int{}, api.ErrMail}, {nil, worst, [2]int{}, api.ErrMail}, {worst, worst, [2]int{-1, -1}, api.ErrMail},
		{long, few, [2]int{-1, 0}, api.ErrMail}, {few, long, [2]int{0, 3}, api.ErrMail}, {few, long, [2]int{3, 0}, api.ErrMail}, {long, few, [2]int{0, -1}, api.ErrMail}, {long, few, [2]int{258, 0}, api.ErrMail}, {bad, long, [2]int{-1, -1}, api.ErrMail},
		{bad, few, [2]int{-1, 0}, api.ErrTerm}, {bad, few, [2]int{0, 3}, api.ErrTerm}, {few, bad, [2]int{3, 0}, api.ErrTerm}, {few, bad, [2]int{0, -1}, api.ErrTerm}, {few, big, [2]int{-1, -1}, api.ErrParts}, {big, few, [2]int{3, 3}, api.ErrParts},
		{bad, big, [2]int{}, api.ErrTerm}, {big, bad, [2]int{}, api.ErrParts}, {both, nil, [2]int{}, api.ErrTerm}, {turned, nil, [2]int{}, api.ErrParts}, {nil, both, [2]int{}, api.ErrTerm}, {nil, turned, [2]int{}, api.ErrParts}, {turned, bad, [2]int{-1, 9}, api.ErrParts},
	}
	for _, x := range rows {
		wantNoLoad(t, state{[2][]api.Term{x.system, x.user}, x.marks}, x.e)
	}
}

// Load of what Lane and Marks tell is the same box, and Copy is, too: all that comes of them is the same.
func TestP122LoadOfWhatIsTold(t *testing.T) {
	for _, s := range states(t) {
		b := s.load(t)
		others := []*box.Box{stateOf(b.Lane(0), b.Lane(1), b.Marks()[0], b.Marks()[1]).load(t), b.Copy()}
		for _, d := range deeds(t) {
			m := modelOf(b)
			both(t, b, m, d)
			for _, other := range others {
				m = modelOf(other)
				both(t, other, m, d)
				holds(t, other, stateOf(b.Lane(0), b.Lane(1), b.Marks()[0], b.Marks()[1]))
			}
		}
	}
}
