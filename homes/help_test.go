package homes_test

import (
	"fmt"
	"slices"
	"testing"

	"carousel/api"
	"carousel/homes"
)

const (
	least = -1 << 63
	most  = 1<<63 - 1
)

// row is the counts of a core, by the classes.
type row = [api.Classes]int

// state is all that can be told of accounts: a row for each core.
type state []row

// copied is a state that shares nothing with this one.
func (s state) copied() state { return slices.Clone(s) }

// with is a state in which one count is another one.
func (s state) with(core, class, count int) state {
	s = s.copied()
	s[core][class] = count
	return s
}

// classOf is a state of a class's counts, core by core; the other classes have as many of their own.
func classOf(class int, counts ...int) state {
	s := make(state, len(counts))
	for core, count := range counts {
		s[core] = row{core % 3, 7, 64 - core}
		s[core][class] = count
	}
	return s
}

// alike is a state of so many cores with like rows.
func alike(cores int, r row) state { return slices.Repeat(state{r}, cores) }

// odd is a state in which no two neighbours have as many.
func odd(cores int) state {
	s := make(state, cores)
	for core := range s {
		s[core] = row{(core*29 + 3) % 65, (core*17 + 64) % 65, (core*41 + 1) % 65}
	}
	return s
}

// states are accounts of one core and more, of as many cores as there may be; empty ones, full ones, and such as are one place from either.
func states() []state {
	return []state{
		alike(1, row{}), alike(1, row{64, 64, 64}), alike(1, row{1, 0, 63}), alike(2, row{}), {{64, 0, 1}, {0, 64, 63}}, alike(2, row{64, 64, 64}),
		{{0, 1, 2}, {63, 64, 0}, {32, 33, 64}}, alike(3, row{1, 1, 1}), odd(5), alike(15, row{63, 64, 0}), alike(16, row{}), alike(16, row{64, 64, 64}), alike(16, row{1, 63, 32}), odd(16),
	}
}

// noCores are numbers of cores that accounts of so many have not.
func noCores(cores int) []int {
	return []int{cores, cores + 1, cores + 2, 16, 17, 64, 1 << 16, 1 << 32, 1<<32 + 1, 1 << 62, api.MaxInt, most - 1, most, -1, -2, -cores, -16, -1 << 32, api.MinInt, least, least + 1}
}

// noClasses are numbers of classes that there are not.
func noClasses() []int {
	return []int{3, 4, 5, 6, 64, 1 << 16, 1 << 32, 1<<32 + 1, 1 << 62, api.MaxInt, most - 1, most, -1, -2, -3, -1 << 32, api.MinInt, least, least + 1}
}

// wild are ints of all kinds, such as are cores, classes and counts among them.
func wild() []int {
	return []int{least, least + 1, api.MinInt, -1 << 32, -65, -64, -3, -2, -1, 0, 1, 2, 3, 4, 15, 16, 17, 63, 64, 65, 1 << 32, api.MaxInt, most - 1, most}
}

// begun are accounts of so many cores.
func begun(t *testing.T, cores int) *homes.Accounts {
	t.Helper()
	a, e := homes.New(cores)
	if e != api.OK || a == nil {
		t.Fatalf("New(%d): %d", cores, e)
	}
	return a
}

// made are accounts that have a state.
func (s state) made(t *testing.T) *homes.Accounts {
	t.Helper()
	a := begun(t, len(s))
	for core := range s {
		for class, count := range s[core] {
			for range count {
				wantTake(t, a, core, class, api.OK)
			}
		}
	}
	return a
}

// stateOf is what Count tells of all accounts of so many cores.
func stateOf(a *homes.Accounts, cores int) state {
	s := make(state, cores)
	for core := range s {
		for class := range s[core] {
			s[core][class] = a.Count(core, class)
		}
	}
	return s
}

// fewest is the first core with the fewest of a class: of all that have that many, which are found from the last one on.
func (s state) fewest(class int) int {
	best := len(s) - 1
	for core := len(s) - 1; core >= 0; core-- {
		if s[core][class] <= s[best][class] {
			best = core
		}
	}
	return best
}

// holds asks of accounts all that can be told of them, in a few places beside those that there are, too.
func holds(t *testing.T, a *homes.Accounts, s state) {
	t.Helper()
	if now := stateOf(a, len(s)); !slices.Equal(now, s) {
		t.Fatalf("there is %v, not %v", now, s)
	}
	for core := range s {
		if room := a.Room(core); room != (row{64 - s[core][0], 64 - s[core][1], 64 - s[core][2]}) {
			t.Fatalf("Room(%d): %v, of %v", core, room, s)
		}
	}
	for class := range api.Classes {
		wantLeast(t, a, class, s.fewest(class))
	}
	for _, core := range []int{-1, len(s)} {
		if a.Count(core, 0) != 0 || a.Count(core, 2) != 0 || a.Room(core) != (row{}) {
			t.Fatalf("there is a core %d in %v", core, s)
		}
	}
	if a.Count(0, -1) != 0 || a.Count(0, 3) != 0 {
		t.Fatalf("there is a fourth class in %v", s)
	}
}

func want(t *testing.T, what string, got, want api.Errno) {
	t.Helper()
	if got != want {
		t.Fatalf("%s: %d, not %d", what, got, want)
	}
}

func wantTake(t *testing.T, a *homes.Accounts, core, class int, f api.Errno) {
	t.Helper()
	if e := a.Take(core, class); e != f {
		t.Fatalf("Take(%d, %d): %d, not %d", core, class, e, f)
	}
}

func wantGive(t *testing.T, a *homes.Accounts, core, class int, f api.Errno) {
	t.Helper()
	if e := a.Give(core, class); e != f {
		t.Fatalf("Give(%d, %d): %d, not %d", core, class, e, f)
	}
}

func wantMove(t *testing.T, a *homes.Accounts, from, to, class, n int, f api.Errno) {
	t.Helper()
	if e := a.Move(from, to, class, n); e != f {
		t.Fatalf("Move(%d, %d, %d, %d): %d, not %d", from, to, class, n, e, f)
	}
}

func wantLeast(t *testing.T, a *homes.Accounts, class, core int) {
	t.Helper()
	if got, e := a.Least(class); got != core || e != api.OK {
		t.Fatalf("Least(%d): %d, %d, not %d", class, got, e, core)
	}
}

// draw are numbers by a fixed rule.
type draw uint64

func (d *draw) below(n int) int {
	*d = *d*6364136223846793005 + 1442695040888963407
	return int(*d>>33) % n
}

// of is one of a list's.
func (d *draw) of(l []int) int { return l[d.below(len(l))] }

func show(a *homes.Accounts) string { return fmt.Sprint(stateOf(a, 16)) }
