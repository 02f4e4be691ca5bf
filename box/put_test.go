package box_test

import (
	"testing"

	"carousel/api"
	"carousel/box"
)

// states are boxes with messages in both lanes, in one, in none, with marks that are set and that are not.
func states(t *testing.T) []state {
	t.Helper()
	full := row(0, api.MaxMail)
	return []state{
		{}, told(t, "a", "", 0, 0), told(t, "", "a", 0, 0), told(t, "a", "", 1, 0), told(t, "", "a", 0, 1), told(t, "a", "b", 0, 0), told(t, "a", "b", 1, 1), told(t, "a; b; c", "d; e", 2, 0), told(t, "a; {b, 1}", "[d]; a; 5+6i; nil", 1, 3),
		stateOf(full[:255], nil, 0, 0), stateOf(nil, full[:255], 0, 255), stateOf(full[:255], full[:255], 100, 200), stateOf(full, nil, 0, 0), stateOf(nil, full, 0, 256), stateOf(full, full[:3], 256, 2), stateOf(full[:3], full, 3, 7), stateOf(full, full, 255, 255),
	}
}

// noLanes are numbers of no lane.
func noLanes() []int { return []int{-1, -2, 2, 3, 256, least, most} }

func TestP121PutIntoEachLane(t *testing.T) {
	for lane := range 2 {
		b, s := box.New(), state{}
		holds(t, b, s)
		for _, x := range rights() {
			want(t, "Put", b.Put(lane, x), api.OK)
			s = s.with(lane, x)
			holds(t, b, s)
		}
		for _, x := range rights() {
			want(t, "Put of the same once more", b.Put(lane, x), api.OK)
			want(t, "Put into the other lane", b.Put(1-lane, x), api.OK)
			s = s.with(lane, x).with(1-lane, x)
			holds(t, b, s)
		}
	}
}

// A message is the last one of its lane, the other lane and the marks are as they were.
func TestP121PutBehindWhatIsThere(t *testing.T) {
	for _, s := range states(t) {
		for lane := range 2 {
			b := s.load(t)
			if len(s.lanes[lane]) == api.MaxMail {
				want(t, "Put into a full lane", b.Put(lane, atom("last")), api.ErrMail)
				holds(t, b, s)
				continue
			}
			want(t, "Put", b.Put(lane, atom("last")), api.OK)
			holds(t, b, s.with(lane, atom("last")))
		}
	}
}

func TestP121PutIntoNoLane(t *testing.T) {
	for _, s := range states(t) {
		b := s.load(t)
		for _, lane := range noLanes() {
			want(t, "Put into no lane", b.Put(lane, atom("a")), api.ErrArg)
			holds(t, b, s)
			for _, x := range wrongs() {
				want(t, "Put of a wrong term into no lane", b.Put(lane, x.t), api.ErrArg)
			}
			holds(t, b, s)
		}
	}
}

// What layer 3 refuses is told behind ErrArg, and ahead of ErrMail.
func TestP121PutOfWrongTerms(t *testing.T) {
	for _, s := range states(t) {
		b := s.load(t)
		for lane := range 2 {
			for _, x := range wrongs() {
				want(t, "Put of a wrong term", b.Put(lane, x.t), x.e)
			}
			holds(t, b, s)
		}
	}
}

// Each lane is filled from the first message to the last, while the other one is empty, and while it is full.
func TestP121PutToTheLimit(t *testing.T) {
	for lane := range 2 {
		for _, n := range []int{0, 255, 256} {
			var s state
			s.lanes[1-lane] = row(1000, n)
			b := s.load(t)
			for k := range api.MaxMail {
				want(t, "Put", b.Put(lane, in(k)), api.OK)
				if b.Len(lane) != k+1 || b.Len(1-lane) != n {
					t.Fatal(b.Len(lane), b.Len(1-lane))
				}
			}
			s.lanes[lane] = row(0, api.MaxMail)
			holds(t, b, s)
			for range 2 {
				want(t, "Put of one too many", b.Put(lane, in(-1)), api.ErrMail)
				holds(t, b, s)
			}
			other := api.OK
			if n == api.MaxMail {
				other = api.ErrMail
			}
			want(t, "Put into the other lane", b.Put(1-lane, in(-2)), other)
		}
	}
}

// When one has gone out of a full lane there is room for one more, and no more, wherever it stood.
func TestP121PutBehindRecv(t *testing.T) {
	for lane := range 2 {
		for _, at := range []int{0, 1, 127, 254, 255} {
			var s state
			s.lanes[lane] = row(0, api.MaxMail)
			b := s.load(t)
			for round := range 3 {
				x := s.lanes[lane][at]
				wantRecv(t, b, []api.Pattern{just(x)}, x, 0)
				s = s.without(lane, at)
				holds(t, b, s)
				want(t, "Put", b.Put(lane, in(1000+round)), api.OK)
				s = s.with(lane, in(1000+round))
				holds(t, b, s)
				want(t, "Put of one too many", b.Put(lane, in(-1)), api.ErrMail)
				holds(t, b, s)
			}
		}
	}
}
