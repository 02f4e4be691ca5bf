package pattern_test

import (
	"strings"
	"testing"

	"carousel/api"
)

func TestPa3Print(t *testing.T) {
	for _, x := range samples() {
		wantPrint(t, x.p, x.s)
	}
}

// A blank stands ahead of the sign of a rest just if something stands ahead of it.
func TestPa3PrintOfRests(t *testing.T) {
	for _, x := range []sample{
		{ahead(whatever()), "[| _]"}, {ahead(whatever(), local(1)), "[$1 | _]"}, {ahead(local(0), tup(), lst()), "[{}, [] | $0]"}, {ahead(ahead(just(in(1)))), "[| [| 1]]"}, {ahead(ahead(just(in(1)), just(in(2))), just(in(3))), "[3 | [2 | 1]]"},
		{lst(ahead(whatever()), ahead(whatever(), whatever())), "[[| _], [_ | _]]"}, {tup(ahead(some(api.KindList)), just(atom("a"))), "{[| :list], a}"}, {ahead(tup()), "[| {}]"}, {ahead(lst()), "[| []]"},
	} {
		wantPrint(t, x.p, x.s)
		wantParse(t, x.s, x.p, api.OK, 0)
	}
}

func TestPa3PrintRefused(t *testing.T) {
	for _, p := range []api.Pattern{{}, {Kind: 7}, local(-1), local(32), some(0), some(10), just(tuple()), just(list()), just(api.Term{}), just(atom("nil")), tup(local(0), local(0)), {Kind: api.PatTuple, Rest: []api.Pattern{whatever()}}, {Kind: api.PatList, Rest: many(2, whatever())}, {Kind: api.PatAny, N: 1}} {
		wantRefused(t, p, api.ErrPattern)
		wantRefused(t, tup(p), api.ErrPattern)
	}
	wantRefused(t, tup(many(1024, whatever())...), api.ErrParts)
	wantRefused(t, within(64, whatever(), wraps()[2]), api.ErrParts)
}

// The longest texts of patterns that may be are those of many long atoms: they are printed whole, and read again.
func TestPa3PrintOfManyBytes(t *testing.T) {
	long := strings.Repeat("q", api.MaxAtom)
	for _, x := range []sample{
		{tup(many(1023, just(atom(long)))...), "{" + strings.Repeat(long+", ", 1022) + long + "}"},
		{ahead(just(atom(long)), many(1022, just(atom(long)))...), "[" + strings.Repeat(long+", ", 1021) + long + " | " + long + "]"},
		{lst(many(511, ahead(just(atom(long))))...), "[" + strings.Repeat("[| "+long+"], ", 510) + "[| " + long + "]]"},
	} {
		wantPrint(t, x.p, x.s)
		wantParse(t, x.s, x.p, api.OK, 0)
		full := x.s + strings.Repeat(" ", api.MaxText-len(x.s))
		wantParse(t, full, x.p, api.OK, 0)
		wantParse(t, full+" ", api.Pattern{}, api.ErrLong, 0)
	}
}
