package table_test

import (
	"slices"
	"testing"

	"carousel/api"
	"carousel/table"
)

func TestExamples(t *testing.T) {
	x := begun(t, 2)
	wantAdd(t, x, pid(0, 1))
	wantAdd(t, x, pid(1, 1))
	wantFull(t, x)
	free(t, x, pid(0, 1))
	wantAdd(t, x, pid(0, 2))
	if x.Is(pid(0, 1)) {
		t.Error("who was freed is alive")
	}
	holds(t, x, at([]int{2, 1}, "0", "1"))
	wantName(t, x, pid(0, 2), "a", api.OK)
	wantName(t, x, pid(1, 1), "a", api.ErrTaken)
	wantName(t, x, pid(0, 2), "b", api.ErrTaken)
	wantName(t, x, pid(0, 2), "nil", api.ErrArg)
	wantWhere(t, x, "a", pid(0, 2), api.OK)
	free(t, x, pid(0, 2))
	wantWhere(t, x, "a", api.Pid{}, api.ErrNone)
	holds(t, state{[]int{2, 1}, []api.Pid{pid(0, 2)}, []string{"a"}}.load(t), at([]int{2, 1}, "0 a"))
	wantNoLoad(t, state{[]int{2, 1}, []api.Pid{pid(0, 1)}, []string{""}})
}

func TestP141New(t *testing.T) {
	for _, room := range []int{1, 2, 3, 100, 255, 256} {
		x := begun(t, room)
		knows(t, x, many(room, 0, never, nameless))
		for n := range room {
			wantAdd(t, x, pid(n, 1))
		}
		wantFull(t, x)
		knows(t, x, many(room, 1, always, nameless))
	}
	for _, room := range []int{api.MinInt, api.MinInt + 1, least, -256, -2, -1, 0, 257, 258, 512, 1 << 16, 1 << 32, 1<<32 + 1, api.MaxInt, most} {
		if x, e := table.New(room); x != nil || e != api.ErrArg {
			t.Errorf("New(%d): %v, %d", room, x, e)
		}
	}
}

// A table is full when each place has somebody; Add then changes nothing, however often; one who goes makes room for one.
func TestP141AddUpToAFullTable(t *testing.T) {
	for _, room := range []int{1, 2, 7, 256} {
		x := begun(t, room)
		for n := range room {
			wantAdd(t, x, pid(n, 1))
			holds(t, x, state{slices.Concat(slices.Repeat([]int{1}, n+1), make([]int, room-n-1)), many(n+1, 1, always, nameless).live, make([]string, n+1)})
		}
		for range 3 {
			wantFull(t, x)
			holds(t, x, many(room, 1, always, nameless))
		}
		for _, n := range []int{room - 1, 0, room / 2} {
			p := stateOf(x).live[n]
			free(t, x, p)
			wantAdd(t, x, pid(n, p.Gen+1))
			wantFull(t, x)
		}
	}
}

// The least free place comes first, in whatever order places became free.
func TestP141AddAtTheLeastPlace(t *testing.T) {
	for _, order := range [][]int{{0}, {4}, {2}, {0, 1}, {1, 0}, {4, 0}, {3, 1, 2}, {1, 2, 3}, {4, 3, 2, 1, 0}, {0, 2, 4}, {4, 2, 0}, {2, 0, 4}} {
		x := begun(t, 5)
		for n := range 5 {
			wantAdd(t, x, pid(n, 1))
		}
		gens := []int{1, 1, 1, 1, 1}
		for _, n := range order {
			free(t, x, pid(n, 1))
		}
		for _, n := range slices.Sorted(slices.Values(order)) {
			wantAdd(t, x, pid(n, 2))
			gens[n] = 2
		}
		wantFull(t, x)
		knows(t, x, at(gens, "0", "1", "2", "3", "4"))
	}
}

// A place that was freed comes ahead of one that has had nobody, if it is lower, and behind it, if it is higher.
func TestP141AddBesidePlacesThatHadNobody(t *testing.T) {
	x := begun(t, 4)
	wantAdd(t, x, pid(0, 1))
	wantAdd(t, x, pid(1, 1))
	free(t, x, pid(0, 1))
	wantAdd(t, x, pid(0, 2))
	wantAdd(t, x, pid(2, 1))
	free(t, x, pid(1, 1))
	free(t, x, pid(2, 1))
	knows(t, x, at([]int{2, 1, 1, 0}, "0"))
	wantAdd(t, x, pid(1, 2))
	free(t, x, pid(0, 2))
	wantAdd(t, x, pid(0, 3))
	wantAdd(t, x, pid(2, 2))
	wantAdd(t, x, pid(3, 1))
	wantFull(t, x)
	knows(t, x, at([]int{3, 2, 2, 1}, "0", "1", "2", "3"))
	x = at([]int{0, 7, 0, 3}, "1").load(t)
	wantAdd(t, x, pid(0, 1))
	wantAdd(t, x, pid(2, 1))
	wantAdd(t, x, pid(3, 4))
	wantFull(t, x)
}

// One place again and again: each actor there has a Gen of its own.
func TestP141AddAgainAndAgain(t *testing.T) {
	x := begun(t, 3)
	for gen := range 1000 {
		wantAdd(t, x, pid(0, gen+1))
		if gen%100 == 7 {
			knows(t, x, at([]int{gen + 1, 0, 0}, "0"))
		}
		free(t, x, pid(0, gen+1))
	}
	knows(t, x, at([]int{1000, 0, 0}))
}

// A place whose number is MaxInt has had its last actor: it is passed over, and alone it makes the table full.
func TestP141AddAtTheLastNumber(t *testing.T) {
	const end = api.MaxInt
	x := at([]int{end - 1}).load(t)
	wantAdd(t, x, pid(0, end))
	wantFull(t, x)
	knows(t, x, at([]int{end}, "0"))
	free(t, x, pid(0, end))
	knows(t, x, at([]int{end}))
	for range 3 {
		wantFull(t, x)
	}
	want(t, "Free again", x.Free(pid(0, end)), api.ErrNone)
	knows(t, x, at([]int{end}))

	x = at([]int{end, 3, end - 1, 0}).load(t)
	wantAdd(t, x, pid(1, 4))
	wantAdd(t, x, pid(2, end))
	free(t, x, pid(2, end))
	wantAdd(t, x, pid(3, 1))
	wantFull(t, x)
	knows(t, x, at([]int{end, 4, end, 1}, "1", "3"))
	free(t, x, pid(1, 4))
	wantAdd(t, x, pid(1, 5))
	wantFull(t, x)

	x = at([]int{end - 2, end}, "1 a").load(t)
	for gen := end - 1; gen <= end; gen++ {
		wantAdd(t, x, pid(0, gen))
		wantFull(t, x)
		free(t, x, pid(0, gen))
	}
	wantFull(t, x)
	knows(t, x, at([]int{end, end}, "1 a"))
	free(t, x, pid(1, end))
	wantFull(t, x)
	knows(t, x, at([]int{end, end}))

	x = many(256, end, never, nameless).load(t)
	wantFull(t, x)
	x = state{gens: append(slices.Repeat([]int{end}, 255), 0)}.load(t)
	wantAdd(t, x, pid(255, 1))
	wantFull(t, x)
}

func TestP141Free(t *testing.T) {
	for _, s := range states() {
		for i, p := range s.live {
			if i > 3 && i < len(s.live)-2 && i%50 != 0 {
				continue
			}
			x, left := s.load(t), s.copied()
			free(t, x, p)
			left.live, left.names = slices.Delete(left.live, i, i+1), slices.Delete(left.names, i, i+1)
			knows(t, x, left)
			want(t, "Free again", x.Free(p), api.ErrNone)
			wantName(t, x, p, "again", api.ErrNone)
			knows(t, x, left)
		}
		x := s.load(t)
		for _, i := range []int{1, 0} { // from both ends
			for n := i; n < len(s.live); n += 2 {
				free(t, x, s.live[n])
			}
		}
		knows(t, x, state{gens: s.gens})
	}
}

// Whoever is not alive is refused by Free, is not told by Is, has no name, gets none: and nothing changes.
func TestP141Strangers(t *testing.T) {
	for _, s := range states() {
		x := s.load(t)
		for _, p := range s.strangers() {
			want(t, "Free of a stranger", x.Free(p), api.ErrNone)
			wantName(t, x, p, "stranger", api.ErrNone)
			if x.Is(p) || x.NameOf(p) != "" {
				t.Fatalf("%v is alive in %s", p, s)
			}
		}
		knows(t, x, s)
		wantWhere(t, x, "stranger", api.Pid{}, api.ErrNone)
	}
}

// A pid whose place has an actor again, or whose N alone, or Gen alone, is another's, is nobody's.
func TestP141PidsThatAreAlmostAlive(t *testing.T) {
	x := begun(t, 4)
	for n := range 3 {
		wantAdd(t, x, pid(n, 1))
	}
	free(t, x, pid(0, 1))
	wantAdd(t, x, pid(0, 2))
	name(t, x, pid(0, 2), "a")
	name(t, x, pid(1, 1), "b")
	s := at([]int{2, 1, 1, 0}, "0 a", "1 b", "2")
	for _, p := range []api.Pid{pid(0, 1), pid(1, 2), pid(2, 2), pid(0, 3), pid(0, 0), pid(1, 0), pid(3, 0), pid(3, 1), pid(3, 2), pid(4, 1), pid(4, 0), pid(-1, 1), pid(-1, 2), pid(0, -2), pid(0, 2+1<<32), pid(1<<32, 2), {}} {
		want(t, "Free", x.Free(p), api.ErrNone)
		wantName(t, x, p, "c", api.ErrNone)
		if x.Is(p) || x.NameOf(p) != "" {
			t.Errorf("%v is alive", p)
		}
		knows(t, x, s)
	}
}

// Live and Gens behind each call.
func TestP141LiveAndGens(t *testing.T) {
	x := begun(t, 3)
	steps := []struct {
		do func()
		s  state
	}{
		{func() {}, at([]int{0, 0, 0})},
		{func() { x.Add() }, at([]int{1, 0, 0}, "0")},
		{func() { x.Add() }, at([]int{1, 1, 0}, "0", "1")},
		{func() { x.Add() }, at([]int{1, 1, 1}, "0", "1", "2")},
		{func() { x.Add() }, at([]int{1, 1, 1}, "0", "1", "2")},
		{func() { x.Name(pid(1, 1), "b") }, at([]int{1, 1, 1}, "0", "1 b", "2")},
		{func() { x.Name(pid(1, 1), "c") }, at([]int{1, 1, 1}, "0", "1 b", "2")},
		{func() { x.Name(pid(0, 1), "b") }, at([]int{1, 1, 1}, "0", "1 b", "2")},
		{func() { x.Name(pid(2, 1), "c") }, at([]int{1, 1, 1}, "0", "1 b", "2 c")},
		{func() { x.Free(pid(1, 1)) }, at([]int{1, 1, 1}, "0", "2 c")},
		{func() { x.Free(pid(1, 1)) }, at([]int{1, 1, 1}, "0", "2 c")},
		{func() { x.Free(pid(0, 1)) }, at([]int{1, 1, 1}, "2 c")},
		{func() { x.Add() }, at([]int{2, 1, 1}, "0", "2 c")},
		{func() { x.Add() }, at([]int{2, 2, 1}, "0", "1", "2 c")},
		{func() { x.Name(pid(1, 2), "b") }, at([]int{2, 2, 1}, "0", "1 b", "2 c")},
		{func() { x.Free(pid(2, 1)) }, at([]int{2, 2, 1}, "0", "1 b")},
		{func() { x.Free(pid(0, 1)) }, at([]int{2, 2, 1}, "0", "1 b")},
		{func() { x.Free(pid(0, 2)) }, at([]int{2, 2, 1}, "1 b")},
		{func() { x.Free(pid(1, 2)) }, at([]int{2, 2, 1})},
		{func() { x.Where("b"); x.NameOf(pid(1, 2)); x.Is(pid(0, 1)) }, at([]int{2, 2, 1})},
	}
	for _, step := range steps {
		step.do()
		knows(t, x, step.s)
	}
}
