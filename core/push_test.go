package core_test

import (
	"slices"
	"testing"

	"carousel/api"
)

// Who comes stands last in its queue, not pinned; nobody else moves.
func TestP181Push(t *testing.T) {
	for _, s := range states() {
		for class, l := range s.queues {
			c := s.load(t)
			if len(l) == 64 {
				wantPush(t, c, class, pid(99999, 1), api.ErrFull)
				holds(t, c, s)
				continue
			}
			wantPush(t, c, class, pid(99998, 1), api.OK)
			knows(t, c, s.with(class, joined(l, list{{Pid: pid(99998, 1)}})))
			wantPush(t, c, class, pid(99998, 1), api.ErrArg)
			knows(t, c, s.with(class, joined(l, list{{Pid: pid(99998, 1)}})))
		}
	}
}

// Each queue takes QueueCap, whatever the others have.
func TestP181PushUpToTheEnd(t *testing.T) {
	for class := range api.Classes {
		for _, s := range []state{at("012", 0, "", "", ""), {digits("0102010"), 4, lists{many(64, 1000), many(64, 2000), many(64, 3000)}}, at("0122", 1, "a b", "c* d", "e")} {
			s = s.with(class, nil)
			c := s.load(t)
			var l list
			for n := range 64 {
				if c.Empty() != (len(s.all())+n == 0) {
					t.Error("Empty:", c.Empty(), n)
				}
				l = append(l, api.Entry{Pid: pid(n, 5)})
				wantPush(t, c, class, pid(n, 5), api.OK)
				holds(t, c, s.with(class, l))
			}
			for n := range 3 {
				wantPush(t, c, class, pid(64+n, 5), api.ErrFull)
				holds(t, c, s.with(class, l))
			}
			wantDrop(t, c, pid(5, 5), class, 5, api.OK)
			wantPush(t, c, class, pid(64, 5), api.OK)
			wantPush(t, c, class, pid(65, 5), api.ErrFull)
			knows(t, c, s.with(class, joined(l[:5], l[6:], list{{Pid: pid(64, 5)}})))
		}
	}
}

// A full queue keeps nobody out of the others.
func TestP181PushBesideAFullQueue(t *testing.T) {
	for class := range api.Classes {
		s := state{slots: digits("012")}.with(class, many(64, 1))
		c := s.load(t)
		next, last := (class+1)%3, (class+2)%3
		wantPush(t, c, next, who('a'), api.OK)
		wantPush(t, c, last, who('b'), api.OK)
		wantPush(t, c, class, who('c'), api.ErrFull)
		knows(t, c, s.with(next, entries("a")).with(last, entries("b")))
	}
}

func TestP181PushOfNoClass(t *testing.T) {
	for _, s := range states() {
		c := s.load(t)
		for _, class := range noClasses() {
			wantPush(t, c, class, pid(99999, 1), api.ErrArg)
			for _, x := range s.all()[:min(2, len(s.all()))] {
				wantPush(t, c, class, x.Pid, api.ErrArg)
			}
		}
		holds(t, c, s)
	}
}

// Of a pid that stands in that queue, or in another one: ErrArg, wherever it stands there, also where the queue is full.
func TestP181PushOfWhoStandsThere(t *testing.T) {
	for _, s := range states() {
		c := s.load(t)
		for _, x := range s.all() {
			for class := range api.Classes {
				wantPush(t, c, class, x.Pid, api.ErrArg)
			}
		}
		holds(t, c, s)
	}
}

func TestP181PushTellsTheFirstError(t *testing.T) {
	s := state{digits("012"), 2, lists{many(64, 1), entries("a b*"), many(64, 100)}}
	c := s.load(t)
	for _, x := range []struct {
		class int
		p     api.Pid
		f     api.Errno
	}{
		{0, who('c'), api.ErrFull},
		{0, who('a'), api.ErrArg},     // full, and it stands in another one
		{0, pid(64, 7), api.ErrArg},   // full, and it stands there, last
		{2, pid(1, 7), api.ErrArg},    // both are full
		{2, pid(164, 7), api.ErrFull}, // nobody has this number
		{2, who('A'), api.ErrFull},    // another one of a place that has somebody
		{3, who('c'), api.ErrArg},     // no class
		{-1, who('b'), api.ErrArg},    // nor does anything else fit
		{1, who('b'), api.ErrArg},
	} {
		wantPush(t, c, x.class, x.p, x.f)
		holds(t, c, s)
	}
}

// Two of one place, and two of the same number in its place, are two actors.
func TestP181PushOfLikePids(t *testing.T) {
	c := begun(t, digits("012"))
	ps := []api.Pid{{}, pid(0, 1), pid(1, 0), pid(1, 1), pid(0, 2), pid(2, 0), pid(-1, 0), pid(0, -1), pid(1<<32, 0), pid(0, 1<<32), pid(most, 0), pid(0, most), pid(least, 0), pid(0, least), pid(most, least), pid(least, most)}
	var l list
	for _, p := range ps {
		wantNobody(t, c, p)
		wantPush(t, c, 1, p, api.OK)
		l = append(l, api.Entry{Pid: p})
	}
	knows(t, c, state{slots: digits("012"), queues: lists{nil, l, nil}})
	for _, p := range ps {
		wantPush(t, c, 0, p, api.ErrArg)
	}
}

// Who went out comes again, into any queue, not pinned, and stands last.
func TestP181PushOfWhoWentOut(t *testing.T) {
	ways := map[string]func(t *testing.T, s state, class int) (state, api.Pid){
		"Pick": func(t *testing.T, s state, class int) (state, api.Pid) {
			l := s.queues[class]
			return s.with(class, l[1:]), l[0].Pid
		},
		"Drop": func(t *testing.T, s state, class int) (state, api.Pid) {
			l := s.queues[class]
			return s.with(class, joined(l[:1], l[2:])), l[1].Pid
		},
		"Cut": func(t *testing.T, s state, class int) (state, api.Pid) {
			l := s.queues[class]
			return s.with(class, l[:len(l)-1]), l[len(l)-1].Pid
		},
	}
	for name, way := range ways {
		for class := range api.Classes {
			for into := range api.Classes {
				for _, n := range []int{2, 3, 64} {
					s := state{slots: []int{class, 0, 1, 2}}.with(class, allPinned(many(n, 1))).with((class+1)%3, entries("a* b"))
					c := s.load(t)
					then, p := way(t, s, class)
					switch name {
					case "Pick":
						wantPick(t, c, api.Entry{Pid: p, Pinned: true}, class, api.OK)
						then.hand = 1
					case "Drop":
						wantDrop(t, c, p, class, 1, api.OK)
					case "Cut":
						wantCut(t, c, class, 1, list{{Pid: p, Pinned: true}}, api.OK)
					}
					holds(t, c, then)
					wantNobody(t, c, p)
					wantPush(t, c, into, p, api.OK)
					knows(t, c, then.with(into, joined(then.queues[into], list{{Pid: p}})))
					wantPush(t, c, into, p, api.ErrArg)
				}
			}
		}
	}
}

// A queue goes round and round its room: whoever comes stands behind all that are there.
func TestP181PushAndPickGoRound(t *testing.T) {
	for _, n := range []int{1, 2, 63, 64} {
		s := state{slots: digits("012")}.with(1, many(n, 0))
		c := s.load(t)
		l := slices.Clone(s.queues[1])
		for k := range 200 {
			wantPick(t, c, l[0], 1, api.OK)
			p := pid(n+k, 4)
			wantPush(t, c, 1, p, api.OK)
			l = append(l[1:], api.Entry{Pid: p})
			holds(t, c, state{s.slots, (k + 1) % 3, lists{nil, l, nil}})
		}
	}
}
