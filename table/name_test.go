package table_test

import (
	"strings"
	"testing"

	"carousel/api"
)

func TestP142NamesThatAreNoAtoms(t *testing.T) {
	x := at([]int{2, 1, 0}, "0 a", "1").load(t)
	for _, s := range noAtoms() {
		for _, p := range []api.Pid{pid(1, 1), pid(0, 2), pid(0, 1), pid(2, 0), pid(-1, 1), pid(most, 1), {}} { // who has none, who has one, and who is not alive
			wantName(t, x, p, s, api.ErrArg)
		}
		wantWhere(t, x, s, api.Pid{}, api.ErrNone)
	}
	knows(t, x, at([]int{2, 1, 0}, "0 a", "1"))
}

func TestP142NamesThatAreAtoms(t *testing.T) {
	l := atoms()
	for i, s := range l {
		x := at([]int{4, 9}, "0", "1").load(t)
		wantWhere(t, x, s, api.Pid{}, api.ErrNone)
		name(t, x, pid(i%2, []int{4, 9}[i%2]), s)
		wantWhere(t, x, s, pid(i%2, []int{4, 9}[i%2]), api.OK)
		want := []string{"", ""}
		want[i%2] = s
		knows(t, x, state{[]int{4, 9}, []api.Pid{pid(0, 4), pid(1, 9)}, want})
	}
	x := many(256, 3, always, nameless).load(t)
	s := many(256, 3, always, nameless)
	for i, name := range l[:min(len(l), 256)] {
		wantName(t, x, pid(i, 3), name, api.OK)
		s.names[i] = name
	}
	knows(t, x, s)
}

// Names are told from one another by all their bytes.
func TestP142NamesThatAreAlike(t *testing.T) {
	l := []string{"a", "aa", "aA", "a_", "ab", "aB", strings.Repeat("a", 63), strings.Repeat("a", 64), strings.Repeat("a", 63) + "b"}
	x := begun(t, 100)
	for n, s := range l {
		wantAdd(t, x, pid(n, 1))
		name(t, x, pid(n, 1), s)
	}
	for n, s := range l {
		wantWhere(t, x, s, pid(n, 1), api.OK)
		free(t, x, pid(n, 1))
		wantWhere(t, x, s, api.Pid{}, api.ErrNone)
		for k := n + 1; k < len(l); k++ {
			wantWhere(t, x, l[k], pid(k, 1), api.OK)
		}
	}
}

// A name is taken by another one, or by itself; who has one gets no other one.
func TestP142Taken(t *testing.T) {
	for _, s := range states() {
		x := s.load(t)
		for i, p := range s.live {
			for _, taken := range s.names[:min(len(s.names), 8)] {
				if taken != "" {
					wantName(t, x, p, taken, api.ErrTaken)
				}
			}
			if s.names[i] != "" {
				wantName(t, x, p, s.names[i], api.ErrTaken)
				wantName(t, x, p, "other", api.ErrTaken)
			}
		}
		knows(t, x, s)
		wantWhere(t, x, "other", api.Pid{}, api.ErrNone)
	}
}

// Behind the end of who had it a name is free, for whoever: for the next one at its place, too, who does not have it by itself.
func TestP142NamesBehindTheirEnds(t *testing.T) {
	x := begun(t, 3)
	for n := range 3 {
		wantAdd(t, x, pid(n, 1))
	}
	name(t, x, pid(1, 1), "a")
	wantName(t, x, pid(0, 1), "a", api.ErrTaken)
	free(t, x, pid(1, 1))
	wantWhere(t, x, "a", api.Pid{}, api.ErrNone)
	wantName(t, x, pid(1, 1), "a", api.ErrNone)
	wantAdd(t, x, pid(1, 2))
	wantWhere(t, x, "a", api.Pid{}, api.ErrNone)
	knows(t, x, at([]int{1, 2, 1}, "0", "1", "2"))
	name(t, x, pid(1, 2), "b")
	name(t, x, pid(0, 1), "a")
	knows(t, x, at([]int{1, 2, 1}, "0 a", "1 b", "2"))
	free(t, x, pid(0, 1))
	free(t, x, pid(1, 2))
	name(t, x, pid(2, 1), "a")
	wantAdd(t, x, pid(0, 2))
	wantName(t, x, pid(0, 2), "a", api.ErrTaken)
	name(t, x, pid(0, 2), "b")
	knows(t, x, at([]int{2, 2, 1}, "0 b", "2 a"))
}

// The end of one without a name takes nobody's name, nor does the end of another one.
func TestP142OthersEnds(t *testing.T) {
	x := at([]int{1, 1, 1}, "0", "1 b", "2 c").load(t)
	free(t, x, pid(0, 1))
	knows(t, x, at([]int{1, 1, 1}, "1 b", "2 c"))
	wantAdd(t, x, pid(0, 2))
	wantWhere(t, x, "", api.Pid{}, api.ErrNone)
	free(t, x, pid(2, 1))
	knows(t, x, at([]int{2, 1, 1}, "0", "1 b"))
	want(t, "Free of who was", x.Free(pid(2, 1)), api.ErrNone)
	want(t, "Free of who will be", x.Free(pid(1, 2)), api.ErrNone)
	knows(t, x, at([]int{2, 1, 1}, "0", "1 b"))
}

// ErrArg is told ahead of ErrNone, ErrNone ahead of ErrTaken. What is refused changes nothing.
func TestP142OrderOfErrors(t *testing.T) {
	for _, s := range states() {
		x := s.load(t)
		strangers := s.strangers()[:20]
		for _, p := range strangers {
			for _, n := range noAtoms()[:20] {
				wantName(t, x, p, n, api.ErrArg)
			}
			for _, n := range append(s.names[:min(len(s.names), 20):min(len(s.names), 20)], "free") {
				if n != "" {
					wantName(t, x, p, n, api.ErrNone)
				}
			}
		}
		for i, p := range s.live {
			for _, n := range noAtoms()[:20] {
				wantName(t, x, p, n, api.ErrArg)
			}
			if s.names[i] != "" {
				wantName(t, x, p, s.names[i], api.ErrTaken)
			}
		}
		knows(t, x, s)
	}
}

func TestP142Where(t *testing.T) {
	x := begun(t, 2)
	nobody := append(noAtoms(), "a", "b", "nobody", strings.Repeat("a", 64))
	for _, s := range nobody {
		wantWhere(t, x, s, api.Pid{}, api.ErrNone)
	}
	wantAdd(t, x, pid(0, 1))
	for _, s := range nobody {
		wantWhere(t, x, s, api.Pid{}, api.ErrNone)
	}
	name(t, x, pid(0, 1), "x")
	wantWhere(t, x, "x", pid(0, 1), api.OK)
	for _, s := range append(nobody, "xx", "xX", "x_") {
		wantWhere(t, x, s, api.Pid{}, api.ErrNone)
	}
	free(t, x, pid(0, 1))
	wantWhere(t, x, "x", api.Pid{}, api.ErrNone)
}

func TestP142NameOf(t *testing.T) {
	x := at([]int{2, 1, 0}, "0 a", "1").load(t)
	for _, row := range []struct {
		p    api.Pid
		name string
	}{{pid(0, 2), "a"}, {pid(1, 1), ""}, {pid(0, 1), ""}, {pid(0, 3), ""}, {pid(2, 0), ""}, {pid(2, 1), ""}, {pid(3, 2), ""}, {pid(-1, 2), ""}, {pid(least, 2), ""}, {pid(most, 2), ""}, {pid(0, -2), ""}, {api.Pid{}, ""}} {
		if got := x.NameOf(row.p); got != row.name {
			t.Errorf("NameOf(%v): %q, not %q", row.p, got, row.name)
		}
	}
	free(t, x, pid(0, 2))
	if got := x.NameOf(pid(0, 2)); got != "" {
		t.Errorf("NameOf of who was freed: %q", got)
	}
}
