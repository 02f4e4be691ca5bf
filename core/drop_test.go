package core_test

import (
	"testing"

	"carousel/api"
)

// Each one who stands somewhere is dropped by itself: those behind it move up, and nobody else.
func TestP181Drop(t *testing.T) {
	for _, s := range states() {
		for class, l := range s.queues {
			for i, x := range l {
				if len(l) > 10 && i > 1 && i < len(l)-2 && i%9 != 0 {
					continue
				}
				c := s.load(t)
				wantDrop(t, c, x.Pid, class, i, api.OK)
				knows(t, c, s.with(class, joined(l[:i], l[i+1:])))
				wantDrop(t, c, x.Pid, 0, 0, api.ErrNone)
				knows(t, c, s.with(class, joined(l[:i], l[i+1:])))
			}
		}
	}
}

func TestP181DropSome(t *testing.T) {
	s := at("012", 1, "a b c", "d e", "f g h* i")
	for _, x := range []struct {
		who       byte
		class, at int
		then      state
	}{
		{'a', 0, 0, at("012", 1, "b c", "d e", "f g h* i")},
		{'b', 0, 1, at("012", 1, "a c", "d e", "f g h* i")},
		{'c', 0, 2, at("012", 1, "a b", "d e", "f g h* i")},
		{'d', 1, 0, at("012", 1, "a b c", "e", "f g h* i")},
		{'e', 1, 1, at("012", 1, "a b c", "d", "f g h* i")},
		{'f', 2, 0, at("012", 1, "a b c", "d e", "g h* i")},
		{'g', 2, 1, at("012", 1, "a b c", "d e", "f h* i")},
		{'h', 2, 2, at("012", 1, "a b c", "d e", "f g i")},
		{'i', 2, 3, at("012", 1, "a b c", "d e", "f g h*")},
	} {
		c := s.load(t)
		wantFind(t, c, who(x.who), x.class, x.at)
		holds(t, c, s)
		wantDrop(t, c, who(x.who), x.class, x.at, api.OK)
		knows(t, c, x.then)
	}
}

// One by one, from either end and from the middle, all go; each tells how many stood ahead of it then.
func TestP181DropAll(t *testing.T) {
	for _, s := range states() {
		for way := range 3 {
			c, now := s.load(t), s.copied()
			for class := range now.queues {
				for len(now.queues[class]) > 0 {
					l := now.queues[class]
					i := []int{0, len(l) / 2, len(l) - 1}[way]
					wantDrop(t, c, l[i].Pid, class, i, api.OK)
					now = now.with(class, joined(l[:i], l[i+1:]))
					holds(t, c, now)
				}
			}
			if !c.Empty() {
				t.Fatal("somebody is left:", show(c))
			}
		}
	}
}

// Of nobody: ErrNone, of others of a place that has somebody, too; and nothing changes.
func TestP181DropOfNobody(t *testing.T) {
	for _, s := range states() {
		c := s.load(t)
		ps := strangers()
		for _, x := range s.all() {
			ps = append(ps, pid(x.Pid.N, 98), pid(x.Pid.Gen, 98), pid(12345, x.Pid.Gen))
		}
		for _, p := range ps {
			wantDrop(t, c, p, 0, 0, api.ErrNone)
			wantNobody(t, c, p)
		}
		holds(t, c, s)
	}
}

// Find changes nothing, however often it is asked: the picks go on as if it had not been.
func TestP181FindChangesNothing(t *testing.T) {
	for _, s := range states() {
		c, m := s.load(t), modelOf(s)
		for range len(s.all()) + 1 {
			now := m.state()
			for range 2 {
				for class, l := range now.queues {
					for i := 0; i < len(l); i += max(1, len(l)/5) {
						wantFind(t, c, l[i].Pid, class, i)
					}
				}
				wantNobody(t, c, strangers()[0])
			}
			both(t, c, m, deed{what: "pick"})
		}
		holds(t, c, m.state())
	}
}
