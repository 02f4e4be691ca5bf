package tie_test

import (
	"slices"
	"testing"

	"carousel/api"
	"carousel/tie"
)

// grown are drawn ties, behind a drawn script, and their model.
func (d *draw) grown(t *testing.T) (*tie.Ties, *model) {
	t.Helper()
	l := d.list()
	x, m := load(t, l), modelFrom(l)
	for range d.below(150) {
		both(t, x, m, d.deed(d.below(5)))
	}
	return x, m
}

// Behind each call: one is linked with another one just if that one is with it, none is with itself, and none twice.
func TestTb4LinksAreOfBoth(t *testing.T) {
	var d draw = 2
	met := 0
	for range 60 {
		x, m := d.grown(t)
		for range 6 {
			both(t, x, m, d.deed(d.below(5)))
			who := everybody(x.All())
			with := map[api.Pid][]api.Pid{}
			for _, p := range who {
				with[p] = x.Links(p)
			}
			links := 0
			for a, l := range with {
				for i, b := range l {
					if a == b || i > 0 && !ahead(l[i-1], b) || !slices.Contains(with[b], a) {
						t.Fatalf("%v is linked with %v, which is with %v", a, l, with[b])
					}
					links++
				}
			}
			if n := len(linksOf(x.All())); links != 2*n {
				t.Fatalf("%d links are told by their ends, %d by All", links, n)
			}
			met += links
		}
	}
	if met < 10000 {
		t.Error("too few links:", met)
	}
}

func linksOf(l []api.Tie) []api.Tie {
	return slices.DeleteFunc(slices.Clone(l), func(y api.Tie) bool { return y.Ref != 0 })
}

// Behind Gone nothing has to do with who went, and all else is as it was; till it comes again.
func TestTb4BehindGone(t *testing.T) {
	var d draw = 11
	for range 100 {
		x, m := d.grown(t)
		p := d.pid()
		l := x.All()
		both(t, x, m, deed{what: "gone", a: p})
		knows(t, x, without(l, p))
		for range 40 {
			y := d.deed(d.below(5))
			if y.a == p || y.b == p {
				continue
			}
			both(t, x, m, y)
			if now := x.All(); len(without(now, p)) != len(now) || len(x.Links(p)) != 0 || len(x.Watchers(p)) != 0 {
				t.Fatalf("behind %v: %v has ties: %v", y, p, now)
			}
		}
		wantGone(t, x, p, nil, nil)
	}
}

// What Gone tells is what was told of one before it, but for the monitors that one had of itself.
func TestTb4GoneTellsWhatWasTold(t *testing.T) {
	var d draw = 12
	for range 200 {
		x, _ := d.grown(t)
		p := d.pid()
		links, watchers := x.Links(p), x.Watchers(p)
		for _, b := range links {
			if !slices.Contains(x.Links(b), p) {
				t.Fatalf("%v is not linked with %v", b, p)
			}
		}
		wantGone(t, x, p, links, slices.DeleteFunc(watchers, func(y api.Tie) bool { return y.A == p }))
		for _, b := range links {
			if slices.Contains(x.Links(b), p) {
				t.Fatalf("%v is linked with %v, which went", b, p)
			}
		}
	}
}

// Load of All, a copy, and copies of these go on as the ties that they are of, beside them.
func TestTb4LoadOfAll(t *testing.T) {
	var d draw = 31
	for range 150 {
		x, m := d.grown(t)
		l := x.All()
		if !mayBe(l) || len(l) > 1024 {
			t.Fatal("ties tell what may not be:", l)
		}
		others := []*tie.Ties{load(t, l), x.Copy(), x.Copy().Copy(), load(t, x.Copy().All()), load(t, l).Copy()}
		for k, y := range others {
			holds(t, y, l)
			if y == x || k > 0 && y == others[k-1] {
				t.Fatal("ties stand twice")
			}
		}
		for range 20 {
			deed := d.deed(d.below(5))
			before := m.copied()
			both(t, x, m, deed)
			for _, y := range others {
				both(t, y, before.copied(), deed)
				holds(t, y, m.all())
			}
		}
	}
}

// The same of ties at the limits, with all deeds.
func TestTb4LoadOfLists(t *testing.T) {
	for _, l := range lists() {
		for _, d := range deeds() {
			x, m := load(t, l), modelFrom(l)
			both(t, x, m, d)
			y := load(t, x.All())
			knows(t, y, m.all())
			for _, d := range deeds() {
				before := m.copied()
				both(t, x, m, d)
				both(t, y, before, d)
			}
			holds(t, y, x.All())
		}
	}
}
