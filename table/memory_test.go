package table_test

import (
	"runtime"
	"slices"
	"strings"
	"testing"

	"carousel/api"
	"carousel/table"
)

// notGiven are tables that neither New nor Load nor Copy gave.
func notGiven(t *testing.T) map[string]*table.Table {
	t.Helper()
	byHand, empty := *at([]int{2, 1, 0}, "0 a", "1").load(t), *begun(t, 4)
	refused, _ := table.New(0)
	tooMany, _ := table.New(257)
	unloaded, _ := table.Load([]int{2, 1}, []api.Pid{pid(0, 1)}, []string{""})
	unnamed, _ := table.Load([]int{2, 1}, []api.Pid{pid(0, 2)}, []string{"nil"})
	var none *table.Table
	return map[string]*table.Table{"nil": nil, "zero": {}, "new": new(table.Table), "copied by hand": &byHand, "an empty one copied by hand": &empty, "refused by New": refused, "too many for New": tooMany, "refused by Load": unloaded, "refused by Load for a name": unnamed, "a copy of nil": none.Copy(), "a copy of one copied by hand": byHand.Copy(), "a copy of zero": new(table.Table).Copy()}
}

func TestR1OfTablesThatWereNotGiven(t *testing.T) {
	texts := append(atoms()[:10], noAtoms()[:20]...)
	for what, x := range notGiven(t) {
		for range 2 {
			if p, e := x.Add(); p != (api.Pid{}) || e != api.ErrArg {
				t.Errorf("%s: Add: %v, %d", what, p, e)
			}
			for _, p := range append(at([]int{2, 1, 0}).strangers(), pid(0, 2), pid(1, 1), pid(0, 1), api.Pid{}) {
				want(t, what+": Free", x.Free(p), api.ErrArg)
				if x.Is(p) || x.NameOf(p) != "" {
					t.Errorf("%s: %v is alive, and called %q", what, p, x.NameOf(p))
				}
				for _, s := range texts {
					want(t, what+": Name", x.Name(p, s), api.ErrArg)
				}
			}
			for _, s := range texts {
				if p, e := x.Where(s); p != (api.Pid{}) || e != api.ErrArg {
					t.Errorf("%s: Where(%q): %v, %d", what, s, p, e)
				}
			}
			if len(x.Live()) > 0 || len(x.Gens()) > 0 || x.Copy() != nil {
				t.Error(what, x.Live(), x.Gens(), x.Copy())
			}
		}
	}
}

// A table goes on as it did when a struct that was copied of it by hand is used.
func TestR1CopiedByHandChangesNothing(t *testing.T) {
	for _, s := range states() {
		x := s.load(t)
		c := *x
		c.Add()
		for _, p := range s.live {
			c.Free(p)
			c.Name(p, "byhand")
		}
		spoil(c.Gens(), 7)
		knows(t, x, s)
		wantWhere(t, x, "byhand", api.Pid{}, api.ErrNone)
	}
}

// wild are numbers at which a table could go wrong.
func wild() []int {
	return []int{least, least + 1, api.MinInt - 1, api.MinInt, -1 << 32, -257, -256, -1, 0, 1, 2, 255, 256, 257, 1 << 32, api.MaxInt, api.MaxInt + 1, most - 1, most}
}

func TestR1WildArguments(t *testing.T) {
	for _, s := range []state{at([]int{0}), at([]int{api.MaxInt, 1}, "0 a", "1"), many(256, 1, always, own)} {
		x := s.load(t)
		for _, n := range wild() {
			for _, gen := range wild() {
				p := pid(n, gen)
				if slices.Contains(s.live, p) {
					continue
				}
				want(t, "Free", x.Free(p), api.ErrNone)
				want(t, "Name", x.Name(p, "wild"), api.ErrNone)
				if x.Is(p) || x.NameOf(p) != "" {
					t.Errorf("%v is alive", p)
				}
				wantNoLoad(t, state{[]int{n}, []api.Pid{p}, nil})
				if l := (state{[]int{gen}, []api.Pid{p}, []string{""}}); !mayBe(l) {
					wantNoLoad(t, l)
				}
				if l := (state{[]int{1, gen, gen}, []api.Pid{pid(0, 1), p}, []string{"", "b"}}); !mayBe(l) {
					wantNoLoad(t, l)
				}
			}
		}
		wantWhere(t, x, strings.Repeat("a", 1<<20), api.Pid{}, api.ErrNone)
		want(t, "Name", x.Name(pid(0, 1), strings.Repeat("a", 1<<20)), api.ErrArg)
		knows(t, x, s)
	}
	wantNoLoad(t, state{[]int{1}, slices.Repeat([]api.Pid{pid(0, 1)}, 1<<16), make([]string, 1<<16)})
	wantNoLoad(t, state{[]int{1}, nil, make([]string, 1<<16)})
	wantNoLoad(t, state{[]int{1}, make([]api.Pid, 1<<16), nil})
}

// What Load was given is its giver's: what is written over it, or behind its end, is not seen, and the table writes nothing there.
func TestR3LoadKeepsItsOwn(t *testing.T) {
	for _, s := range states() {
		given := state{roomy(s.gens, -1, most), roomy(s.live, pid(-1, -1), pid(0, 1)), roomy(s.names, "nil", "behind")}
		whole := func() state {
			return state{given.gens[:cap(given.gens)], given.live[:cap(given.live)], given.names[:cap(given.names)]}
		}
		before := whole().copied()
		x := given.load(t)
		c, m := x.Copy(), modelFrom(s)
		for _, d := range deeds() {
			both(t, c, m, d)
		}
		if !sameState(whole(), before) {
			t.Fatal("what was handed in is changed:", whole())
		}
		spoil(given.gens, 77)
		spoil(given.live, pid(7, 77))
		spoil(given.names, "spoilt")
		knows(t, x, s)
		wantWhere(t, x, "spoilt", api.Pid{}, api.ErrNone)
		m = modelFrom(s)
		for _, d := range deeds() {
			both(t, x, m, d)
			holds(t, x, m.state())
		}
		now := whole()
		if i := slices.IndexFunc(now.gens, func(n int) bool { return n != 77 }); i >= 0 {
			t.Error("the table writes into what was handed in:", now.gens[i])
		}
		if i := slices.IndexFunc(now.live, func(p api.Pid) bool { return p != pid(7, 77) }); i >= 0 {
			t.Error("the table writes into what was handed in:", now.live[i])
		}
		if i := slices.IndexFunc(now.names, func(s string) bool { return s != "spoilt" }); i >= 0 {
			t.Error("the table writes into what was handed in:", now.names[i])
		}
	}
}

// What stands behind the ends of lists that Load is given is not there: neither as a wrong one nor as one too many.
func TestR3BehindTheEnds(t *testing.T) {
	for _, s := range states() {
		knows(t, state{roomy(s.gens, -1), roomy(s.live, pid(-1, 1)), roomy(s.names, "nil")}.load(t), s)
		knows(t, state{roomy(s.gens, 1), roomy(s.live, pid(len(s.gens), 1)), roomy(s.names, "behind")}.load(t), s)
	}
	gens := slices.Repeat([]int{1}, 257)
	knows(t, state{gens: gens[:256]}.load(t), many(256, 1, never, nameless))
	wantNoLoad(t, state{gens: gens})
	wantNoLoad(t, state{gens[:2], []api.Pid{pid(0, 1), pid(1, 1)}, roomy([]string{"a"}, "b")})
	wantNoLoad(t, state{gens[:2], roomy([]api.Pid{pid(0, 1)}, pid(1, 1)), []string{"a", "b"}})
	wantNoLoad(t, state{gens[:1:2], []api.Pid{pid(0, 1), pid(1, 1)}, []string{"a", "b"}})
}

// A refused Load leaves what it was given as it was.
func TestR3RefusedLoadChangesNothing(t *testing.T) {
	for _, s := range states() {
		for _, wrong := range []state{
			{roomy(s.gens, 1, 2), append(slices.Clone(s.live), pid(-1, 1)), append(slices.Clone(s.names), "b")},
			{append(slices.Clone(s.gens), -1), roomy(s.live, pid(0, 1)), roomy(s.names, "x")},
			{roomy(s.gens, 1), roomy(s.live, pid(0, 1)), append(slices.Clone(s.names), "nil")},
		} {
			before := wrong.copied()
			wantNoLoad(t, wrong)
			if !sameState(wrong, before) {
				t.Fatal("a refused Load changes what it was given:", wrong)
			}
		}
	}
}

// What Live and Gens told is their asker's: it may be written over and appended to, and does not change with the table.
func TestR3AnswersAreTheirOwn(t *testing.T) {
	for _, s := range states() {
		x := s.load(t)
		gens, live := x.Gens(), x.Live()
		keptGens, keptLive := x.Gens(), x.Live()
		c := x.Copy()
		spoil(gens, 88)
		spoil(live, pid(8, 88))
		knows(t, x, s)
		knows(t, c, s)
		m := modelFrom(s)
		for _, d := range deeds() {
			both(t, x, m, d)
			holds(t, x, m.state())
			spoil(x.Gens(), 88)
			spoil(x.Live(), pid(8, 88))
			holds(t, x, m.state())
		}
		if !slices.Equal(keptGens, s.gens) || !slices.Equal(keptLive, s.live) {
			t.Error("an answer changes with the table, or with another answer:", keptGens, keptLive)
		}
		if i := slices.IndexFunc(gens[:cap(gens)], func(n int) bool { return n != 88 }); i >= 0 {
			t.Error("the table writes into an answer:", gens[:cap(gens)][i])
		}
		if i := slices.IndexFunc(live[:cap(live)], func(p api.Pid) bool { return p != pid(8, 88) }); i >= 0 {
			t.Error("the table writes into an answer:", live[:cap(live)][i])
		}
	}
}

// What lies in the spare room of an answer is new, too.
func TestR3SpareRoom(t *testing.T) {
	for _, s := range states() {
		x := s.load(t)
		for range 3 {
			gens, live := x.Gens(), x.Live()
			for _, n := range gens[len(gens):cap(gens)] {
				if n != 0 {
					t.Fatal("something lies behind Gens:", n)
				}
			}
			for _, p := range live[len(live):cap(live)] {
				if p != (api.Pid{}) {
					t.Fatal("something lies behind Live:", p)
				}
			}
			spoil(gens, 3)
			spoil(live, pid(3, 3))
			x.Add()
		}
	}
}

// A table and its copy, and one that is loaded of what it tells, go their own ways, whatever is done to one of them.
func TestR4Copy(t *testing.T) {
	ds := deeds()
	for _, s := range states() {
		for k := range ds {
			x := s.load(t)
			c, l := x.Copy(), stateOf(x).load(t)
			if c == nil || c == x || c == l {
				t.Fatal("Copy:", c, x, l)
			}
			m, n, o := modelFrom(s), modelFrom(s), modelFrom(s)
			for i := range ds {
				both(t, x, m, ds[i])
				both(t, c, n, ds[(i*5+k)%len(ds)])
				both(t, l, o, ds[(i*7+k+1)%len(ds)])
			}
			holds(t, x, m.state())
			holds(t, c, n.state())
			holds(t, l, o.state())
		}
	}
}

// Copy leaves the table as it was, and takes nothing from it.
func TestR4CopyOfCopies(t *testing.T) {
	for _, s := range states() {
		x := s.load(t)
		c := x.Copy()
		for _, p := range s.live {
			free(t, x, p)
		}
		knows(t, x, state{gens: s.gens})
		knows(t, c, s)
		d := c.Copy()
		for _, p := range s.live {
			free(t, c, p)
		}
		knows(t, d, s)
		for i, p := range s.live {
			if s.names[i] == "" {
				name(t, d, p, "z"+own(i))
			}
		}
		knows(t, c, state{gens: s.gens})
	}
}

// One table knows nothing of another one: the same names, and the same pids, stand in both.
func TestR4TablesKnowNothingOfOneAnother(t *testing.T) {
	x, y := begun(t, 3), begun(t, 3)
	if x == y {
		t.Fatal("New gives one table twice")
	}
	wantAdd(t, x, pid(0, 1))
	knows(t, y, at([]int{0, 0, 0}))
	wantAdd(t, y, pid(0, 1))
	wantAdd(t, y, pid(1, 1))
	name(t, x, pid(0, 1), "a")
	knows(t, y, at([]int{1, 1, 0}, "0", "1"))
	name(t, y, pid(1, 1), "a")
	free(t, x, pid(0, 1))
	knows(t, x, at([]int{1, 0, 0}))
	knows(t, y, at([]int{1, 1, 0}, "0", "1 a"))
}

// What is told stays the same, however often it is asked for.
func TestR4AskedAgain(t *testing.T) {
	var d draw = 12
	for range 50 {
		x, m := d.grown(t)
		for range 3 {
			knows(t, x, m.state())
		}
	}
}

// A name is kept without the text that it was cut out of, and not at all behind its holder's end.
func TestR3NamesAreKeptAlone(t *testing.T) {
	const long = 1 << 22
	heap := func() int {
		runtime.GC()
		var m runtime.MemStats
		runtime.ReadMemStats(&m)
		return int(m.HeapAlloc)
	}
	x := begun(t, 32)
	before := heap()
	for n := range 16 {
		wantAdd(t, x, pid(n, 1))
		name(t, x, pid(n, 1), strings.Repeat(own(n), long/2)[:len(own(n))])
	}
	y := many(16, 1, always, func(n int) string { return strings.Repeat(own(n), long/2)[:len(own(n))] }).load(t)
	if more := heap() - before; more > 8*long {
		t.Error("the long texts are kept:", more)
	}
	for n := range 16 {
		wantWhere(t, x, own(n), pid(n, 1), api.OK)
		wantWhere(t, y, own(n), pid(n, 1), api.OK)
	}
}
