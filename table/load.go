package table

import (
	"maps"
	"slices"

	"carousel/api"
)

// Load is the table of these, of who is alive, and of their names.
func Load(gens []int, live []api.Pid, names []string) (*Table, api.Errno) {
	t, e := New(len(gens))
	if e != api.OK || len(names) != len(live) {
		return nil, api.ErrArg
	}
	for n, had := range gens {
		if had < 0 || had > api.MaxInt {
			return nil, api.ErrArg
		}
		t.places[n].had = had
	}
	ahead := -1
	for i, p := range live {
		if p.N <= ahead || p.N >= len(gens) || p.Gen < 1 || p.Gen != gens[p.N] {
			return nil, api.ErrArg
		}
		t.places[p.N].alive = true
		if names[i] != "" && t.Name(p, names[i]) != api.OK {
			return nil, api.ErrArg
		}
		ahead = p.N
	}
	return t, api.OK
}

// Copy is a table as this one is now.
func (t *Table) Copy() *Table {
	if !t.given() {
		return nil
	}
	return of(slices.Clone(t.places), maps.Clone(t.names))
}
