package core_test

import (
	"fmt"
	"slices"
	"strings"
	"testing"

	"carousel/api"
	"carousel/core"
)

const (
	least = -1 << 63
	most  = 1<<63 - 1
)

type list = []api.Entry

// lists are a list for each class.
type lists = [api.Classes][]api.Entry

func pid(n, gen int) api.Pid { return api.Pid{N: n, Gen: gen} }

// who is the pid of a letter: a small one the first actor of its place, a capital one the second one of the same place.
func who(letter byte) api.Pid {
	if letter >= 'a' {
		return pid(int(letter-'a'), 1)
	}
	return pid(int(letter-'A'), 2)
}

// entries are those of a text: a letter each, with a star, if it is pinned.
func entries(s string) list {
	var l list
	for _, w := range strings.Fields(s) {
		l = append(l, api.Entry{Pid: who(w[0]), Pinned: strings.HasSuffix(w, "*")})
	}
	return l
}

// many are so many entries, at the places from one on; every third one is pinned.
func many(n, from int) list {
	var l list
	for i := range n {
		l = append(l, api.Entry{Pid: pid(from+i, 7), Pinned: i%3 == 1})
	}
	return l
}

// allPinned is a list with all its entries pinned.
func allPinned(l list) list {
	l = slices.Clone(l)
	for i := range l {
		l[i].Pinned = true
	}
	return l
}

// joined are lists, one behind the other.
func joined(ls ...list) list { return slices.Concat(ls...) }

// state is all that a core is.
type state struct {
	slots  []int
	hand   int
	queues lists
}

// digits are the slots of a text: a digit each.
func digits(s string) []int {
	l := make([]int, len(s))
	for i := range s {
		l[i] = int(s[i] - '0')
	}
	return l
}

// at is a state with the entries of texts.
func at(slots string, hand int, high, normal, low string) state {
	return state{digits(slots), hand, lists{entries(high), entries(normal), entries(low)}}
}

// copied is a state that shares nothing with this one.
func (s state) copied() state {
	s.slots = slices.Clone(s.slots)
	for class := range s.queues {
		s.queues[class] = slices.Clone(s.queues[class])
	}
	return s
}

// with is a state in which one queue is another one.
func (s state) with(class int, l list) state {
	s = s.copied()
	s.queues[class] = slices.Clone(l)
	return s
}

// all are a state's entries, class by class.
func (s state) all() list { return joined(s.queues[0], s.queues[1], s.queues[2]) }

// pids are those of all.
func (s state) pids() []api.Pid {
	var l []api.Pid
	for _, x := range s.all() {
		l = append(l, x.Pid)
	}
	return l
}

// longest is a wheel of as many slots as there may be, the classes not spread at all.
func longest() []int {
	return slices.Concat(slices.Repeat([]int{0}, 40), slices.Repeat([]int{1}, 20), slices.Repeat([]int{2}, 4))
}

// states are cores of all kinds: nobody there, one, some of one class and of all, queues with one place left and full ones; short wheels and long ones; the hand at the first slot, between, at the last one.
func states() []state {
	return []state{
		at("012", 0, "", "", ""), at("012", 2, "", "", ""), at("2100", 3, "a", "", ""), at("012", 1, "", "a*", ""), at("0102010", 6, "", "", "a A"),
		at("012", 0, "a b c", "", ""), at("012", 1, "a* b* c", "d", "e* f g"), at("210", 2, "", "a b", "c* d"), at("0102010", 3, "b a A", "", "B* z y* Z"),
		{digits("012"), 0, lists{many(63, 0), many(64, 100), nil}}, {digits("1102"), 2, lists{many(64, 0), many(64, 64), many(64, 128)}}, {longest(), 63, lists{many(1, 0), many(64, 300), many(63, 500)}},
		{longest(), 39, lists{many(5, -3), many(4, 1<<40), many(3, api.MinInt)}}, {digits("0102010"), 5, lists{nil, many(63, 0), nil}}, {longest(), 0, lists{}},
		{digits("021"), 1, lists{{{Pid: pid(least, most)}, {}, {Pid: pid(-1, -1)}}, {{Pid: pid(most, least), Pinned: true}}, {{Pid: pid(0, -1)}, {Pid: pid(0, 1)}}}},
	}
}

// wild are ints of all kinds, such as are classes, hands and counts among them.
func wild() []int {
	return []int{least, least + 1, api.MinInt, -1 << 32, -65, -64, -3, -2, -1, 0, 1, 2, 3, 4, 7, 63, 64, 65, 1 << 32, 1<<32 + 1, 1 << 62, api.MaxInt, most - 1, most}
}

// noClasses are numbers of classes that there are not.
func noClasses() []int {
	return []int{3, -1, 4, 5, 64, 1 << 16, 1 << 32, 1<<32 + 1, 1 << 62, api.MaxInt, most - 1, most, -2, -3, -1 << 32, api.MinInt, least, least + 1}
}

// strangers are pids that no state's texts and numbers name.
func strangers() []api.Pid {
	return []api.Pid{pid(0, 99), pid(25, 3), pid(99999, 1), pid(-77, 7), pid(most, most), pid(least, least)}
}

// noWheels are slots that are no wheel: none, too many, one class missing, a class that there is not.
func noWheels() [][]int {
	l := [][]int{nil, {}, {0}, {0, 1}, {0, 0, 1}, {1, 2}, {2, 0, 2, 0}, {0, 1, 2, 3}, {-1, 0, 1, 2}, {0, 1, 3}, {0, 1, least, 2}, {0, 1, 2, most}, append(longest(), 0), slices.Repeat([]int{0, 1, 2}, 22), slices.Repeat([]int{0, 1, 2}, 1000)}
	return append(l, slices.Repeat([]int{1}, 64), make([]int, 64))
}

// wheels are slots that are one: the fewest, and the most that there may be.
func wheels() [][]int {
	l := [][]int{longest(), slices.Repeat([]int{2, 1, 0, 0}, 16), append(slices.Repeat([]int{1}, 62), 0, 2), append([]int{0, 1}, slices.Repeat([]int{2}, 61)...)}
	for _, s := range []string{"012", "021", "102", "120", "201", "210", "0012", "2010", "0102010", "1112220"} {
		l = append(l, digits(s))
	}
	return l
}

func begun(t *testing.T, slots []int) *core.Core {
	t.Helper()
	c, e := core.New(slots)
	if e != api.OK || c == nil {
		t.Fatalf("New(%v): %v, %d", slots, c, e)
	}
	return c
}

// load is the core that has a state.
func (s state) load(t *testing.T) *core.Core {
	t.Helper()
	c, e := core.Load(s.slots, s.hand, s.queues)
	if e != api.OK || c == nil {
		t.Fatalf("Load(%v): %v, %d", s, c, e)
	}
	return c
}

func wantNoLoad(t *testing.T, s state, f api.Errno) {
	t.Helper()
	if c, e := core.Load(s.slots, s.hand, s.queues); c != nil || e != f {
		t.Fatalf("Load(%v): %v, %d, not %d", s, c, e, f)
	}
}

func same(a, b list) bool { return slices.Equal(a, b) }

// stateOf is what a core tells of itself, with the slots that it is known to have.
func stateOf(c *core.Core, slots []int) state {
	return state{slots, c.Hand(), lists{c.Queue(0), c.Queue(1), c.Queue(2)}}
}

// holds asks of a core all that it tells without a change.
func holds(t *testing.T, c *core.Core, s state) {
	t.Helper()
	if h := c.Hand(); h != s.hand {
		t.Fatalf("the hand is at %d, not %d", h, s.hand)
	}
	if c.Empty() != (len(s.all()) == 0) {
		t.Fatalf("Empty: %v, of %v", c.Empty(), s.queues)
	}
	for class, l := range s.queues {
		if q := c.Queue(class); !same(q, l) {
			t.Fatalf("Queue(%d): %v, not %v", class, q, l)
		}
		for i, x := range l {
			wantFind(t, c, x.Pid, class, i)
		}
	}
	for _, p := range strangers() {
		wantNobody(t, c, p)
	}
	if len(c.Queue(-1)) > 0 || len(c.Queue(3)) > 0 {
		t.Fatal("there is a fourth class:", c.Queue(-1), c.Queue(3))
	}
}

// knows asks of a core all that can be told of it, how it goes on, too: in which order all are picked, of a copy.
func knows(t *testing.T, c *core.Core, s state) {
	t.Helper()
	holds(t, c, s)
	other, m := c.Copy(), modelOf(s)
	for range len(s.all()) + 1 {
		both(t, other, m, deed{what: "pick"})
	}
	holds(t, c, s)
}

func want(t *testing.T, what string, got, want api.Errno) {
	t.Helper()
	if got != want {
		t.Fatalf("%s: %d, not %d", what, got, want)
	}
}

func wantFind(t *testing.T, c *core.Core, p api.Pid, class, at int) {
	t.Helper()
	if k, i, e := c.Find(p); k != class || i != at || e != api.OK {
		t.Fatalf("Find(%v): %d, %d, %d, not %d, %d", p, k, i, e, class, at)
	}
}

// wantNobody asks for an actor that stands nowhere.
func wantNobody(t *testing.T, c *core.Core, p api.Pid) {
	t.Helper()
	if k, i, e := c.Find(p); k != 0 || i != 0 || e != api.ErrNone {
		t.Fatalf("Find(%v): %d, %d, %d, of nobody", p, k, i, e)
	}
}

func wantPush(t *testing.T, c *core.Core, class int, p api.Pid, f api.Errno) {
	t.Helper()
	if e := c.Push(class, p); e != f {
		t.Fatalf("Push(%d, %v): %d, not %d", class, p, e, f)
	}
}

func wantPick(t *testing.T, c *core.Core, x api.Entry, class int, f api.Errno) {
	t.Helper()
	if y, k, e := c.Pick(); y != x || k != class || e != f {
		t.Fatalf("Pick: %v, %d, %d, not %v, %d, %d", y, k, e, x, class, f)
	}
}

func wantDrop(t *testing.T, c *core.Core, p api.Pid, class, at int, f api.Errno) {
	t.Helper()
	if k, i, e := c.Drop(p); k != class || i != at || e != f {
		t.Fatalf("Drop(%v): %d, %d, %d, not %d, %d, %d", p, k, i, e, class, at, f)
	}
}

func wantCut(t *testing.T, c *core.Core, class, n int, l list, f api.Errno) {
	t.Helper()
	if got, e := c.Cut(class, n); !same(got, l) || e != f {
		t.Fatalf("Cut(%d, %d): %v, %d, not %v, %d", class, n, got, e, l, f)
	}
}

func wantJoin(t *testing.T, c *core.Core, class int, l list, f api.Errno) {
	t.Helper()
	if e := c.Join(class, l); e != f {
		t.Fatalf("Join(%d, %v): %d, not %d", class, l, e, f)
	}
}

// roomy is a list with others lying in the room behind its end.
func roomy[T any](l []T, behind ...T) []T {
	return append(slices.Clone(l), behind...)[: len(l) : len(l)+len(behind)]
}

// spoil writes over a list, its spare room too.
func spoil[T any](l []T, x T) {
	l = l[:cap(l)]
	for i := range l {
		l[i] = x
	}
}

// draw are numbers by a fixed rule.
type draw uint64

func (d *draw) below(n int) int {
	*d = *d*6364136223846793005 + 1442695040888963407
	return int(*d>>33) % n
}

// of is one of a list's.
func (d *draw) of(l []int) int { return l[d.below(len(l))] }

func show(c *core.Core) string { return fmt.Sprint(stateOf(c, nil)) }
