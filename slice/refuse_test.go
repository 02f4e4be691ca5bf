package slice_test

import (
	"testing"

	"carousel/api"
	"carousel/slice"
)

// refusal is what Solo and Reds are given, and what they refuse of it.
type refusal struct {
	what   string
	m      api.Module
	fn     int
	args   []api.Term
	inbox  []api.Term
	slices int
	e      api.Errno
}

func (x refusal) is(t *testing.T) {
	t.Helper()
	got, e := slice.Solo(x.m, x.fn, x.args, x.inbox, x.slices)
	if e != x.e || !sameMeaning(got, api.Meaning{}) {
		t.Errorf("%s: %s, %d, not %d", x.what, toldMeaning(got), e, x.e)
	}
	n, e := slice.Reds(x.m, x.fn, x.args, x.inbox, x.slices)
	if e != x.e || n != 0 {
		t.Errorf("%s: %d, %d, not 0, %d", x.what, n, e, x.e)
	}
}

// Each thing that Solo refuses by itself; it has one parameter to begin with.
func TestSl2Refused(t *testing.T) {
	m := made(t, "func f 1 2; load 0; ret; func g 0 0; push 1; ret")
	one := row(1)
	for _, x := range []refusal{
		{"no function -1", m, -1, nil, nil, 1, api.ErrNone},
		{"no function 2", m, 2, nil, nil, 1, api.ErrNone},
		{"no such function", m, least, one, nil, 1, api.ErrNone},
		{"no such function", m, most, one, nil, 1, api.ErrNone},
		{"too few arguments", m, 0, nil, nil, 1, api.ErrArg},
		{"too many arguments", m, 0, row(2), nil, 1, api.ErrArg},
		{"an argument of none", m, 1, one, nil, 1, api.ErrArg},
		{"slices -1", m, 0, one, nil, -1, api.ErrArg},
		{"slices of the least", m, 0, one, nil, least, api.ErrArg},
		{"slices MaxFuel + 1", m, 0, one, nil, api.MaxFuel + 1, api.ErrArg},
		{"slices of the most", m, 0, one, nil, most, api.ErrArg},
		{"no module", api.Module{}, 0, nil, nil, 1, api.ErrModule},
		{"a jump", api.Module{Name: "m", Funcs: []api.Func{{Name: "f", Code: []api.Instr{{Op: api.OpJump, A: 1}}}}}, 0, nil, nil, 1, api.ErrJump},
		{"a fall", api.Module{Name: "m", Funcs: []api.Func{{Name: "f", Code: []api.Instr{{Op: api.OpNow}}}}}, 0, nil, nil, 1, api.ErrFall},
	} {
		x.is(t)
	}
	for _, w := range wrongs() {
		refusal{"an argument " + told(w.t), m, 0, terms(w.t), nil, 1, w.e}.is(t)
		for _, inbox := range [][]api.Term{terms(w.t), terms(in(1), w.t), terms(atom("a"), list(), w.t, api.Term{Kind: 99})} {
			refusal{"a message " + told(w.t), m, 0, one, inbox, 1, w.e}.is(t)
			refusal{"a message " + told(w.t), m, 1, nil, inbox, 0, w.e}.is(t)
		}
	}
}

// Of two things that are wrong the one that is named first is told: the module, the function, how many arguments, the arguments, the inbox, the slices.
func TestSl2OrderOfErrors(t *testing.T) {
	good := made(t, "func f 2 2; load 0; ret")
	odd := good
	odd.Name = "M"
	type part struct {
		e    api.Errno
		make func(*refusal)
	}
	parts := []part{
		{api.ErrModule, func(x *refusal) { x.m = odd }},
		{api.ErrNone, func(x *refusal) { x.fn = 1 }},
		{api.ErrArg, func(x *refusal) { x.args = append(x.args[:len(x.args):len(x.args)], in(1)) }},
		{api.ErrTerm, func(x *refusal) { x.args = append(terms(api.Term{}), x.args[1:]...) }},
		{api.ErrParts, func(x *refusal) { x.inbox = terms(in(1), big()) }},
		{api.ErrArg, func(x *refusal) { x.slices = -1 }},
	}
	for mask := 1; mask < 1<<len(parts); mask++ {
		x := refusal{what: "several", m: good, args: row(2), slices: 1}
		for k, p := range parts {
			if mask>>k&1 == 0 {
				continue
			}
			if p.make(&x); x.e == api.OK {
				x.e = p.e
			}
		}
		x.is(t)
	}
	for _, x := range []refusal{
		{"the first argument", good, 0, terms(api.Term{}, big()), nil, 1, api.ErrTerm},
		{"the first argument", good, 0, terms(big(), api.Term{}), nil, 1, api.ErrParts},
		{"the second argument", good, 0, terms(in(1), big()), terms(api.Term{}), 1, api.ErrParts},
		{"the first message", good, 0, row(2), terms(api.Term{}, big()), 1, api.ErrTerm},
		{"the first message", good, 0, row(2), terms(in(5), big(), api.Term{}), -1, api.ErrParts},
	} {
		x.is(t)
	}
	wantSolo(t, "nothing wrong", good, row(2), row(2), 0, api.Meaning{End: api.EndYield, Left: 2}, 0)
	wantSolo(t, "nothing wrong", good, row(2), nil, api.MaxFuel, exits(in(0)), 2)
}
