package table_test

import (
	"testing"

	"carousel/api"
	"carousel/table"
)

// grown is a drawn table, behind a drawn script, and its model.
func (d *draw) grown(t *testing.T) (*table.Table, *model) {
	t.Helper()
	s := d.state()
	x, m := s.load(t), modelFrom(s)
	for range d.below(150) {
		both(t, x, m, d.deed(m, d.below(4)))
	}
	return x, m
}

// No pid that Add tells was ever told before, or stood in the table at its beginning, and none of those that were freed is alive again: on a copy, or on a table that is loaded of what is told, as well.
func TestP144NoPidTwice(t *testing.T) {
	full, again := 0, 0
	for seed := range 60 {
		d := draw(seed)
		s := d.state()
		x := s.load(t)
		given, dead := map[api.Pid]bool{}, map[api.Pid]bool{}
		for n, had := range s.gens {
			if p := pid(n, had); !x.Is(p) {
				dead[p] = true
			}
			given[pid(n, had)] = true
		}
		for range 2000 {
			switch d.below(40) {
			case 0:
				x = x.Copy()
			case 1:
				x = stateOf(x).load(t)
			}
			if d.below(3) > 0 {
				p, e := x.Add()
				if e == api.ErrActors {
					full++
					continue
				}
				if e != api.OK || given[p] || dead[p] || p.Gen < 1 || p.Gen > api.MaxInt || !x.Is(p) || x.NameOf(p) != "" {
					t.Fatalf("Add: %v, %d: given: %v, freed: %v, called %q", p, e, given[p], dead[p], x.NameOf(p))
				}
				given[p] = true
			} else if l := x.Live(); len(l) > 0 {
				p := l[d.below(len(l))]
				free(t, x, p)
				dead[p] = true
				again++
			}
			if d.below(50) == 0 {
				for p := range dead {
					if x.Is(p) || x.Free(p) != api.ErrNone || x.Name(p, "a") != api.ErrNone || x.NameOf(p) != "" {
						t.Fatalf("%v is alive again", p)
					}
				}
			}
		}
		for p := range dead {
			if x.Is(p) {
				t.Fatalf("%v is alive again", p)
			}
		}
	}
	if full < 1000 || again < 1000 {
		t.Error("the scripts come too seldom to something:", full, again)
	}
}

// Who stays alive stays so, with its name, whatever is done to others.
func TestP144WhoIsAliveStays(t *testing.T) {
	var d draw = 77
	for range 200 {
		x, m := d.grown(t)
		l := x.Live()
		if len(l) == 0 {
			continue
		}
		p := l[d.below(len(l))]
		called := m.alive[p]
		for range 100 {
			y := d.deed(m, d.below(4))
			if y.p == p {
				continue
			}
			both(t, x, m, y)
			if !x.Is(p) || x.NameOf(p) != called {
				t.Fatalf("behind %v: %v is alive: %v, called %q, not %q", y, p, x.Is(p), x.NameOf(p), called)
			}
		}
	}
}

// Behind each call: of whoever has a name that name tells the way back, and no two have one.
func TestP145NamesLeadBack(t *testing.T) {
	var d draw = 2
	met := 0
	for range 100 {
		x, m := d.grown(t)
		for range 60 {
			both(t, x, m, d.deed(m, d.below(4)))
			whose := map[string]api.Pid{}
			for _, p := range x.Live() {
				s := x.NameOf(p)
				if s == "" {
					continue
				}
				if q, taken := whose[s]; taken {
					t.Fatalf("%v and %v are called %q", p, q, s)
				}
				whose[s] = p
				wantWhere(t, x, s, p, api.OK)
				met++
			}
			for n := range 60 {
				p, e := x.Where(own(n))
				if q, taken := whose[own(n)]; taken != (e == api.OK) || p != q {
					t.Fatalf("Where(%q): %v, %d, not %v", own(n), p, e, q)
				}
				if e == api.OK && (x.NameOf(p) != own(n) || !x.Is(p)) {
					t.Fatalf("%v is called %q, not %q", p, x.NameOf(p), own(n))
				}
			}
		}
	}
	if met < 10000 {
		t.Error("too few names:", met)
	}
}

// A name goes from one to another: it is always just the last one's.
func TestP145NamesGoOn(t *testing.T) {
	x := begun(t, 5)
	for n := range 5 {
		wantAdd(t, x, pid(n, 1))
	}
	gens := []int{1, 1, 1, 1, 1}
	for k := range 500 {
		n := k * 3 % 5
		p := pid(n, gens[n])
		name(t, x, p, "a")
		for other, gen := range gens {
			if q := pid(other, gen); q != p {
				wantName(t, x, q, "a", api.ErrTaken)
			}
		}
		wantWhere(t, x, "a", p, api.OK)
		free(t, x, p)
		wantWhere(t, x, "a", api.Pid{}, api.ErrNone)
		gens[n]++
		wantAdd(t, x, pid(n, gens[n]))
	}
}

// Load of what is told goes on as the table that it is told of, and so does a copy, beside it.
func TestP146LoadOfWhatIsTold(t *testing.T) {
	var d draw = 31
	for range 400 {
		x, m := d.grown(t)
		s := stateOf(x)
		if !mayBe(s) {
			t.Fatal("a table tells what may not be:", s)
		}
		others := []*table.Table{s.load(t), x.Copy(), x.Copy().Copy(), stateOf(x.Copy()).load(t), s.load(t).Copy()}
		for k, y := range others {
			knows(t, y, s)
			if y == x || k > 0 && y == others[k-1] {
				t.Fatal("one table stands twice")
			}
		}
		for range 30 {
			deed := d.deed(m, d.below(4))
			before := m.copied()
			both(t, x, m, deed)
			for _, y := range others {
				both(t, y, before.copied(), deed)
				holds(t, y, m.state())
			}
		}
	}
}

// The same of tables at the limits, with all deeds, and up to the last Add.
func TestP146LoadOfStates(t *testing.T) {
	for _, s := range states() {
		for _, d := range deeds() {
			x, m := s.load(t), modelFrom(s)
			both(t, x, m, d)
			y, n := stateOf(x).load(t), m.copied()
			for range 300 {
				e := both(t, x, m, deed{what: "add"})
				if f := both(t, y, n, deed{what: "add"}); e != f {
					t.Fatalf("Add: %d, not %d", f, e)
				} else if e != api.OK {
					break
				}
			}
			for _, d := range deeds() {
				both(t, x, m, d)
				both(t, y, n, d)
			}
			holds(t, y, stateOf(x))
		}
	}
}
