package text_test

import (
	"strings"
	"testing"

	"carousel/api"
	"carousel/text"
)

func TestP41Print(t *testing.T) {
	for _, x := range samples() {
		wantPrint(t, x.t, x.s, api.OK)
	}
	wantPrint(t, api.Term{Kind: api.KindTuple, L: []api.Term{}}, "{}", api.OK)
	wantPrint(t, api.Term{Kind: api.KindInt, N: 3, L: []api.Term{}}, "3", api.OK)
}

func TestP41PrintOfManyBytes(t *testing.T) {
	long := atom(strings.Repeat("q", 64))
	l := make([]api.Term, 1023)
	for i := range l {
		l[i] = long
	}
	want := "[" + strings.Repeat(long.S+", ", 1022) + long.S + "]"
	wantPrint(t, list(l...), want, api.OK)
	wantParse(t, want, list(l...), api.OK, 0)
}

func TestP41PrintRefused(t *testing.T) {
	for name, x := range wrongs() {
		if s, e := text.Print(x.t); s != "" || e != x.e {
			t.Errorf("Print of %s: %q, %d, not %d", name, short(s), e, x.e)
		}
		if s, e := text.Print(tuple(in(1), x.t)); s != "" || e != x.e {
			t.Errorf("Print of a tuple with %s: %q, %d, not %d", name, short(s), e, x.e)
		}
	}
}

// What stands behind a list's end is none of it, and nothing that is handed in is changed.
func TestP41PrintLeavesWhatItIsGiven(t *testing.T) {
	room := []api.Term{in(1), tuple(atom("a")), {Kind: 99}, endless(api.KindList)}
	wantPrint(t, list(room[:2]...), "[1, {a}]", api.OK)
	wantPrint(t, api.Term{Kind: api.KindTuple, L: room[:0]}, "{}", api.OK)
	if !same(list(room[:2]...), list(in(1), tuple(atom("a")))) || room[2].Kind != 99 || room[3].Kind != api.KindList {
		t.Error("the list was changed:", room[:3])
	}
}

// names are the kinds' names, from KindNil on.
func names() []string {
	return []string{"nil", "bool", "int", "complex", "atom", "pid", "ref", "tuple", "list"}
}

func TestP41Kind(t *testing.T) {
	for i, name := range names() {
		if s, e := text.Kind(api.KindNil + i); s != name || e != api.OK {
			t.Errorf("Kind(%d): %q, %d", api.KindNil+i, s, e)
		}
		if k, e := text.KindOf(name); k != api.KindNil+i || e != api.OK {
			t.Errorf("KindOf(%q): %d, %d", name, k, e)
		}
	}
	if len(names()) != api.KindList-api.KindNil+1 {
		t.Error("a kind is left out")
	}
}

func TestP41KindRefused(t *testing.T) {
	for _, k := range []int{0, -1, api.KindList + 1, api.KindList + 2, 1 << 32, 1<<32 + 1, most, least, least + 1} {
		if s, e := text.Kind(k); s != "" || e != api.ErrNone {
			t.Errorf("Kind(%d): %q, %d", k, s, e)
		}
	}
	for _, s := range []string{"", " ", "Nil", "NIL", "nil ", " nil", "nill", "ni", "nils", "true", "tuples", "inti", "in", "1", "complex128", "atom\x00", "any", "list,", "nil bool"} {
		if k, e := text.KindOf(s); k != 0 || e != api.ErrNone {
			t.Errorf("KindOf(%q): %d, %d", s, k, e)
		}
	}
	for _, a := range names() {
		for _, b := range names() {
			if k, e := text.KindOf(a + b); k != 0 || e != api.ErrNone {
				t.Errorf("KindOf(%q): %d, %d", a+b, k, e)
			}
		}
	}
}
