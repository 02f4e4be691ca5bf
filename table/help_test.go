package table_test

import (
	"fmt"
	"slices"
	"strconv"
	"strings"
	"testing"

	"carousel/api"
	"carousel/table"
)

const (
	least = -1 << 63
	most  = 1<<63 - 1
)

func pid(n, gen int) api.Pid { return api.Pid{N: n, Gen: gen} }

// state is all that can be told of a table: how many actors each place has had, who is alive, and their names.
type state struct {
	gens  []int
	live  []api.Pid
	names []string
}

// at is a state by how many actors each place has had, and the places of those that are alive, each with its name behind a blank, if it has one.
func at(gens []int, who ...string) state {
	s := state{gens: gens}
	for _, w := range who {
		place, name, _ := strings.Cut(w, " ")
		n, _ := strconv.Atoi(place)
		s.live, s.names = append(s.live, pid(n, gens[n])), append(s.names, name)
	}
	return s
}

// many is a state of so many places, each of which has had a number of actors; who of them is alive, and how they are called, is told by functions of the place.
func many(room, had int, alive func(n int) bool, name func(n int) string) state {
	s := state{gens: slices.Repeat([]int{had}, room)}
	for n := range room {
		if alive(n) {
			s.live, s.names = append(s.live, pid(n, had)), append(s.names, name(n))
		}
	}
	return s
}

func always(int) bool { return true }

func never(int) bool { return false }

func third(n int) bool { return n%3 == 1 }

func nameless(int) string { return "" }

// own is a name that no other place has.
func own(n int) string { return fmt.Sprintf("n%d", n) }

func sometimes(n int) string {
	if n%2 == 0 {
		return ""
	}
	return own(n)
}

// states are tables without actors, with some, full ones, with names and without, and at the last number.
func states() []state {
	const end = api.MaxInt
	return []state{
		at([]int{0}), at([]int{3}), at([]int{1}, "0"), at([]int{1}, "0 a"), at([]int{end}), at([]int{end}, "0 a"), at([]int{end - 1}),
		at([]int{2, 1}, "0 a"), at([]int{2, 1}, "0 a", "1"), at([]int{2, 1}, "1 b"), at([]int{0, 0, 0}), at([]int{0, 5, 0}, "1 x"),
		at([]int{end, 0, end - 1, end}, "2 a", "3 b"), at([]int{end, end - 1, end, 7}, "0 z", "3"), at([]int{end, end, end}),
		many(255, 2, always, own), many(256, 0, never, nameless), many(256, 4, always, own), many(256, 1, always, nameless), many(256, 9, third, sometimes), many(256, end, third, own), many(256, end-1, always, sometimes),
	}
}

func (s state) load(t *testing.T) *table.Table {
	t.Helper()
	x, e := table.Load(s.gens, s.live, s.names)
	if e != api.OK || x == nil {
		t.Fatalf("Load(%s): %d", s, e)
	}
	return x
}

func (s state) String() string {
	var parts []string
	for i, p := range s.live[:min(len(s.live), 20)] {
		parts = append(parts, fmt.Sprintf("<%d.%d> %q", p.N, p.Gen, s.names[min(i, len(s.names)-1)]))
	}
	return fmt.Sprintf("%d gens %v, %d live: %s, %d names", len(s.gens), s.gens[:min(len(s.gens), 20)], len(s.live), strings.Join(parts, "; "), len(s.names))
}

// copied is a state that shares nothing with this one.
func (s state) copied() state {
	return state{slices.Clone(s.gens), slices.Clone(s.live), slices.Clone(s.names)}
}

func stateOf(x *table.Table) state {
	s := state{gens: x.Gens(), live: x.Live()}
	for _, p := range s.live {
		s.names = append(s.names, x.NameOf(p))
	}
	return s
}

func sameState(a, b state) bool {
	return slices.Equal(a.gens, b.gens) && slices.Equal(a.live, b.live) && slices.Equal(a.names, b.names)
}

// strangers are pids that are not alive in a table of a state: such that were, that will be, of places that there are not, and such as no actor has.
func (s state) strangers() []api.Pid {
	room := len(s.gens)
	l := []api.Pid{{}, pid(0, 0), pid(0, -1), pid(0, least), pid(0, most), pid(least, least), pid(most, most)}
	for _, n := range []int{-1, -2, room, room + 1, 256, 1 << 32, api.MinInt, api.MaxInt, least, most, -room, room - 1<<32} {
		for _, gen := range []int{-1, 0, 1, s.gens[0], s.gens[room-1]} {
			l = append(l, pid(n, gen))
		}
	}
	for n, had := range s.gens {
		for _, gen := range []int{had, had + 1, had - 1, had + 1<<32, -had, 0, -1, 1, api.MaxInt, least} {
			if p := pid(n, gen); !slices.Contains(s.live, p) {
				l = append(l, p)
			}
		}
	}
	return l
}

// begun is a table with so many places.
func begun(t *testing.T, room int) *table.Table {
	t.Helper()
	x, e := table.New(room)
	if e != api.OK || x == nil {
		t.Fatalf("New(%d): %d", room, e)
	}
	return x
}

// holds asks of a table all that can be told of it.
func holds(t *testing.T, x *table.Table, s state) {
	t.Helper()
	if now := stateOf(x); !sameState(now, s) {
		t.Fatalf("there is %s, not %s", now, s)
	}
	named := 0
	for i, p := range s.live {
		if !x.Is(p) {
			t.Fatalf("Is(%v): false, of %s", p, s)
		}
		if s.names[i] != "" {
			wantWhere(t, x, s.names[i], p, api.OK)
			named++
		}
	}
	for _, name := range []string{"", "a", "b", "z", "x", "n0", "n1", "n7", "nobody"} {
		if !slices.Contains(s.names, name) || name == "" {
			wantWhere(t, x, name, api.Pid{}, api.ErrNone)
		}
	}
}

// knows asks of a table, too, whom it does not know.
func knows(t *testing.T, x *table.Table, s state) {
	t.Helper()
	holds(t, x, s)
	for _, p := range s.strangers() {
		if x.Is(p) || x.NameOf(p) != "" {
			t.Fatalf("%v is alive, and called %q, in %s", p, x.NameOf(p), s)
		}
	}
}

// want asks for an error.
func want(t *testing.T, what string, got, want api.Errno) {
	t.Helper()
	if got != want {
		t.Errorf("%s: %d, not %d", what, got, want)
	}
}

// wantAdd asks for a pid.
func wantAdd(t *testing.T, x *table.Table, p api.Pid) {
	t.Helper()
	if got, e := x.Add(); got != p || e != api.OK {
		t.Fatalf("Add: %v, %d, not %v", got, e, p)
	}
}

// wantFull asks for no pid.
func wantFull(t *testing.T, x *table.Table) {
	t.Helper()
	if p, e := x.Add(); p != (api.Pid{}) || e != api.ErrActors {
		t.Fatalf("Add: %v, %d, not %d", p, e, api.ErrActors)
	}
}

func free(t *testing.T, x *table.Table, p api.Pid) {
	t.Helper()
	if e := x.Free(p); e != api.OK {
		t.Fatalf("Free(%v): %d", p, e)
	}
}

func name(t *testing.T, x *table.Table, p api.Pid, s string) {
	t.Helper()
	if e := x.Name(p, s); e != api.OK {
		t.Fatalf("Name(%v, %q): %d", p, s, e)
	}
}

// wantName asks Name for an error.
func wantName(t *testing.T, x *table.Table, p api.Pid, s string, f api.Errno) {
	t.Helper()
	if e := x.Name(p, s); e != f {
		t.Fatalf("Name(%v, %q): %d, not %d", p, s, e, f)
	}
}

func wantWhere(t *testing.T, x *table.Table, s string, p api.Pid, f api.Errno) {
	t.Helper()
	if got, e := x.Where(s); got != p || e != f {
		t.Fatalf("Where(%q): %v, %d, not %v, %d", s, got, e, p, f)
	}
}

// wantNoLoad asks for ErrArg, and for no table.
func wantNoLoad(t *testing.T, s state) {
	t.Helper()
	if x, e := table.Load(s.gens, s.live, s.names); x != nil || e != api.ErrArg {
		t.Errorf("Load(%s): %v, %d", s, x, e)
	}
}

// noAtoms are texts that are no names.
func noAtoms() []string {
	l := []string{"", "nil", "true", "false", "A", "Ab", "Z", "_", "_a", "0", "9a", "1", strings.Repeat("a", 65), strings.Repeat("a", 66), strings.Repeat("a", 1<<17), " ", " a", "a ", "a b", "a\n", "\ta", "a\r", "a\x00", "\x00", "\x80", "a\x80", "a\xff", "ä", "aä", "é", "a-b", "-a", "a.b", "a,", "{a}", "'a'", "a[", "a`", "a@", "a/", "a:", "`", "{", "a{", "a世", "ａ", "Nil", "TRUE", "$0", "<0.1>", "#1"}
	for b := range 256 {
		s := string([]byte{byte(b)})
		if !(b >= 'a' && b <= 'z') {
			l = append(l, s, s+"a")
		}
		if !strings.Contains("abcdefghijklmnopqrstuvwxyzABCDEFGHIJKLMNOPQRSTUVWXYZ0123456789_", s) {
			l = append(l, "a"+s, "a"+s+"b", strings.Repeat("z", 63)+s)
		}
	}
	return l
}

// atoms are texts that are names, none twice.
func atoms() []string {
	l := []string{"a", "z", "aa", "ab", "aB", "a_", "a0", "a9", "aZ", "a__", "nil_", "nill", "nilx", "ni", "trueX", "tru", "false0", "fals", "tRUE", "nIL", strings.Repeat("a", 63), strings.Repeat("a", 64), strings.Repeat("b", 63) + "_", "q" + strings.Repeat("Z", 63), "z" + strings.Repeat("9", 63)}
	for b := range 256 {
		s := string([]byte{byte(b)})
		if b > 'a' && b < 'z' {
			l = append(l, s)
		}
		if strings.Contains("bcdefghijklmnopqrstuvwxyzABCDEFGHIJKLMNOPQRSTUVWXYZ0123456789_", s) {
			l = append(l, "m"+s)
		}
	}
	return l
}

// spoil writes over all that stands in a list, and in the room behind its end, and appends to it.
func spoil[T any](l []T, by T) {
	for _, l := range [][]T{l, append(l, by)} {
		l = l[:cap(l)]
		for i := range l {
			l[i] = by
		}
	}
}

// roomy is a list with room behind its end, with something there.
func roomy[T any](l []T, behind ...T) []T { return slices.Concat(l, behind)[:len(l)] }
