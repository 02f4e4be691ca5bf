package table_test

import (
	"slices"
	"strings"
	"testing"

	"carousel/api"
	"carousel/table"
)

func TestP143Load(t *testing.T) {
	for _, s := range states() {
		x := s.load(t)
		knows(t, x, s)
		m := modelOf(x)
		for _, d := range deeds() {
			both(t, x, m, d)
			holds(t, x, m.state())
		}
	}
}

// There are 1 to MaxActors places.
func TestP143LoadOfHowManyGens(t *testing.T) {
	for _, n := range []int{1, 2, 255, 256} {
		knows(t, state{gens: make([]int, n)}.load(t), many(n, 0, never, nameless))
		knows(t, many(n, 5, always, own).load(t), many(n, 5, always, own))
		x := many(n, 1, always, nameless).load(t)
		wantFull(t, x)
	}
	wantNoLoad(t, state{})
	wantNoLoad(t, state{gens: []int{}, live: []api.Pid{}, names: []string{}})
	wantNoLoad(t, state{live: []api.Pid{pid(0, 1)}, names: []string{""}})
	wantNoLoad(t, state{names: []string{""}})
	for _, n := range []int{257, 258, 512, 1 << 16} {
		wantNoLoad(t, state{gens: make([]int, n)})
		wantNoLoad(t, many(n, 1, always, nameless))
		wantNoLoad(t, many(n, 1, third, own))
	}
}

// Each number is 0 to MaxInt, in whichever place, whether somebody is alive there or not.
func TestP143LoadOfNumbers(t *testing.T) {
	for _, place := range []int{0, 1, 4} {
		for _, had := range []int{0, 1, 2, api.MaxInt - 1, api.MaxInt} {
			s := state{gens: []int{3, 3, 3, 3, 3}}
			s.gens[place] = had
			knows(t, s.load(t), s)
			if had > 0 {
				s.live, s.names = []api.Pid{pid(place, had)}, []string{"a"}
				knows(t, s.load(t), s)
			}
		}
		for _, had := range []int{-1, -2, api.MinInt, least, api.MaxInt + 1, api.MaxInt + 2, most} {
			s := state{gens: []int{3, 3, 3, 3, 3}}
			s.gens[place] = had
			wantNoLoad(t, s)
			wantNoLoad(t, state{s.gens, []api.Pid{pid(place, had)}, []string{""}})
			wantNoLoad(t, state{s.gens, []api.Pid{pid(2, 3)}, []string{"a"}})
		}
	}
}

// Each live pid has one of the places as its N, and all rise.
func TestP143LoadOfPlaces(t *testing.T) {
	gens := []int{1, 1, 1, 1}
	for bits := range 1 << 4 { // whoever is alive
		var s state
		s.gens = gens
		for n := range 4 {
			if bits>>n&1 == 1 {
				s.live, s.names = append(s.live, pid(n, 1)), append(s.names, "")
			}
		}
		knows(t, s.load(t), s)
	}
	for _, n := range []int{-1, -2, 4, 5, 255, 256, 1 << 32, -1 << 32, api.MinInt, api.MaxInt, least, most} {
		wantNoLoad(t, state{gens, []api.Pid{pid(n, 1)}, []string{""}})
		wantNoLoad(t, state{gens, []api.Pid{pid(n, 1), pid(0, 1)}, []string{"", "a"}})
		wantNoLoad(t, state{gens, []api.Pid{pid(n, 1), pid(3, 1)}, []string{"", "a"}})
		wantNoLoad(t, state{gens, []api.Pid{pid(0, 1), pid(n, 1)}, []string{"", "a"}})
		wantNoLoad(t, state{gens, []api.Pid{pid(0, 1), pid(n, 1), pid(3, 1)}, []string{"", "", ""}})
	}
	for a := range 4 {
		for b := range 4 {
			for c := range 4 {
				s := state{gens, []api.Pid{pid(a, 1), pid(b, 1), pid(c, 1)}, []string{"", "a", ""}}
				if a < b && b < c {
					knows(t, s.load(t), s)
				} else {
					wantNoLoad(t, s)
				}
				if a >= b {
					wantNoLoad(t, state{gens, []api.Pid{pid(a, 1), pid(b, 1)}, []string{"", ""}})
				}
			}
		}
	}
	// Nor twice one place with two of its actors.
	wantNoLoad(t, state{[]int{2, 1}, []api.Pid{pid(0, 1), pid(0, 2)}, []string{"", ""}})
	wantNoLoad(t, state{[]int{2, 1}, []api.Pid{pid(0, 2), pid(0, 1)}, []string{"", ""}})
	wantNoLoad(t, state{[]int{2, 1}, []api.Pid{pid(0, 2), pid(0, 2)}, []string{"", ""}})
	wantNoLoad(t, state{slices.Repeat([]int{1}, 256), append(many(256, 1, always, nameless).live, pid(255, 1)), make([]string, 257)})
	wantNoLoad(t, state{slices.Repeat([]int{1}, 256), append(many(256, 1, always, nameless).live, pid(256, 1)), make([]string, 257)})
}

// Each live pid's Gen is the number of its place, 1 at least.
func TestP143LoadOfGens(t *testing.T) {
	gens := []int{0, 5, api.MaxInt, 1, 0}
	for n, had := range gens {
		for _, gen := range []int{had - 2, had - 1, had, had + 1, had + 2, 0, 1, 5, -1, -had, had + 1<<32, api.MinInt, least, most} {
			s := state{gens, []api.Pid{pid(n, gen)}, []string{"a"}}
			late := state{[]int{5, 5, 5, 5, 5, 5}, []api.Pid{pid(0, 5), pid(1, 5), pid(2, gen), pid(4, 5)}, []string{"", "", "", ""}}
			late.gens[2] = had
			if gen == had && had > 0 {
				knows(t, s.load(t), s)
				knows(t, late.load(t), late)
			} else {
				wantNoLoad(t, s)
				wantNoLoad(t, late)
			}
		}
	}
}

// There are as many names as there are live pids.
func TestP143LoadOfHowManyNames(t *testing.T) {
	for _, live := range []int{0, 1, 2, 3, 256} {
		s := many(256, 1, func(n int) bool { return n < live }, nameless)
		for _, n := range []int{0, 1, 2, 3, 4, 255, 256, 257, 1000} {
			x := state{s.gens, s.live, make([]string, n)}
			if n == live {
				knows(t, x.load(t), x)
			} else {
				wantNoLoad(t, x)
			}
		}
		wantNoLoad(t, state{s.gens, s.live, append(s.names, "a")})
	}
}

// Each name is empty or an atom, in whichever place.
func TestP143LoadOfNames(t *testing.T) {
	for place := range 3 {
		for _, name := range append(atoms(), "") {
			s := at([]int{1, 1, 1, 1}, "0 b1", "1", "3 b2")
			s.names[place] = name
			knows(t, s.load(t), s)
		}
		for _, name := range noAtoms() {
			if name == "" {
				continue
			}
			for _, others := range []string{"", "b"} {
				s := state{[]int{1, 1, 1, 1}, []api.Pid{pid(0, 1), pid(1, 1), pid(3, 1)}, []string{"", others, ""}}
				s.names[place] = name
				wantNoLoad(t, s)
			}
			wantNoLoad(t, state{[]int{1}, []api.Pid{pid(0, 1)}, []string{name}})
		}
	}
}

// No atom stands twice; the empty text may.
func TestP143LoadOfNamesThatStandTwice(t *testing.T) {
	s := many(256, 1, always, nameless)
	knows(t, s.load(t), s)
	for _, name := range []string{"a", own(7), strings.Repeat("a", 64)} {
		for _, first := range []int{0, 1, 7, 254} {
			for _, second := range []int{first + 1, 255} {
				x := s.copied()
				x.names[first] = name
				knows(t, x.load(t), x)
				x.names[second] = name
				wantNoLoad(t, x)
				x.names[second] += "a"
				if len(name) == 64 {
					wantNoLoad(t, x)
				} else {
					knows(t, x.load(t), x)
				}
			}
		}
	}
	wantNoLoad(t, at([]int{1, 1}, "0 a", "1 a"))
	wantNoLoad(t, at([]int{1, 1, 1}, "0 a", "1", "2 a"))
	wantNoLoad(t, at([]int{1, 1, 1}, "0", "1 a", "2 a"))
	wantNoLoad(t, at([]int{1, 1, 1, 1}, "0 b", "1 a", "2 a", "3 b"))
}

// All small lists, those that may be and those that may not: held against the chapter's words, taken one by one.
func TestP143LoadOfAllSmallLists(t *testing.T) {
	pids := []api.Pid{pid(-1, 1), pid(0, 0), pid(0, 1), pid(0, 2), pid(1, 0), pid(1, 1), pid(1, 2), pid(2, 1), {N: 1, Gen: -1}}
	texts := []string{"", "a", "b", "nil"}
	var lives [][]api.Pid
	var names [][]string
	for i := range pids {
		lives = append(lives, pids[i:i+1])
		for k := range pids {
			lives = append(lives, []api.Pid{pids[i], pids[k]})
		}
	}
	for i := range texts {
		names = append(names, texts[i:i+1])
		for k := range texts {
			names = append(names, []string{texts[i], texts[k]})
		}
	}
	loaded := 0
	for _, gens := range [][]int{nil, {0}, {1}, {2}, {-1}, {0, 0}, {1, 1}, {2, 1}, {0, 2}, {1, -1}, {api.MaxInt + 1, 1}, {2, 2, 1}} {
		for _, live := range append(lives, nil) {
			for _, name := range append(names, nil) {
				s := state{gens, live, name}
				if !mayBe(s) {
					wantNoLoad(t, s)
					continue
				}
				loaded++
				holds(t, s.load(t), s)
			}
		}
	}
	if loaded < 60 {
		t.Error("too few of the lists may be:", loaded)
	}
}

// A table that is refused is none; one that is loaded beside it does not know of it.
func TestP143LoadBehindARefusal(t *testing.T) {
	for _, s := range states() {
		x := s.load(t)
		for _, wrong := range []state{{s.gens, append(slices.Clone(s.live), pid(-1, 1)), append(slices.Clone(s.names), "")}, {s.gens, s.live, append(slices.Clone(s.names), "a")}, {append(slices.Clone(s.gens), -1), s.live, s.names}} {
			wantNoLoad(t, wrong)
		}
		knows(t, x, s)
		y, e := table.Load(s.gens, s.live, s.names)
		want(t, "Load", e, api.OK)
		knows(t, y, s)
	}
}
