package pattern_test

import (
	"slices"
	"strings"
	"testing"

	"carousel/api"
	"carousel/pattern"
)

// patternsOf are all patterns of so many parts, of few kinds of leaves; the locals in them have no numbers yet.
func patternsOf(parts int) []api.Pattern {
	if parts == 1 {
		return []api.Pattern{whatever(), local(0), some(api.KindList), some(api.KindInt), just(atom("a")), tup(), lst()}
	}
	var l []api.Pattern
	for _, row := range rowsOf(parts-1, patternsOf) {
		last := len(row) - 1
		l = append(l, tup(row...), lst(row...), ahead(row[last], row[:last]...))
	}
	return l
}

// termsOf are all terms of so many parts, of few leaves.
func termsOf(parts int) []api.Term {
	if parts == 1 {
		return []api.Term{in(1), atom("a"), tuple(), list()}
	}
	var l []api.Term
	for _, row := range rowsOf(parts-1, termsOf) {
		l = append(l, tuple(row...), list(row...))
	}
	return l
}

// rowsOf are all rows, of one or more, that have so many parts together.
func rowsOf[T any](parts int, of func(int) []T) [][]T {
	var l [][]T
	for _, x := range of(parts) {
		l = append(l, []T{x})
	}
	for n := 1; n < parts; n++ {
		for _, row := range rowsOf(n, of) {
			for _, x := range of(parts - n) {
				l = append(l, append(slices.Clone(row), x))
			}
		}
	}
	return l
}

func upTo[T any](parts int, of func(int) []T) []T {
	var l []T
	for n := 1; n <= parts; n++ {
		l = append(l, of(n)...)
	}
	return l
}

// numbered is a pattern whose locals have numbers, falling, from one on.
func numbered(p api.Pattern, next *int) api.Pattern {
	if p.Kind == api.PatVar {
		*next--
		return local(*next)
	}
	p.L, p.Rest = slices.Clone(p.L), slices.Clone(p.Rest)
	for i := range p.L {
		p.L[i] = numbered(p.L[i], next)
	}
	for i := range p.Rest {
		p.Rest[i] = numbered(p.Rest[i], next)
	}
	return p
}

// inside is all of a term that may stand in the place of a part of a pattern: its parts, and the ends of its lists.
func inside(x api.Term) []api.Term {
	l := []api.Term{x}
	if x.Kind == api.KindList {
		for n := 1; n <= len(x.L); n++ {
			l = append(l, list(x.L[n:]...))
		}
	}
	for _, y := range x.L {
		l = append(l, inside(y)...)
	}
	slices.SortFunc(l, orderOf)
	return slices.CompactFunc(l, sameTerm)
}

// orderOf is any order in which like terms stand together.
func orderOf(a, b api.Term) int {
	return strings.Compare(spelt(a), spelt(b))
}

func spelt(x api.Term) string {
	s := string(rune('0'+x.Kind)) + x.S
	for _, y := range x.L {
		s += spelt(y)
	}
	return s + "."
}

// filling makes of a pattern a term: what stands in its open places is taken from a list, and what its locals get is kept.
type filling struct {
	open  []api.Term
	binds []api.Bind
}

// come is the term that comes of a pattern; false, if something of another kind stands in it.
func (f *filling) come(p api.Pattern) (api.Term, bool) {
	switch p.Kind {
	case api.PatTerm:
		return p.Term, true
	case api.PatTuple, api.PatList:
		return f.comeAll(p)
	}
	x := f.open[0]
	f.open = f.open[1:]
	if p.Kind == api.PatVar {
		f.binds = append(f.binds, api.Bind{Local: p.N, Term: x})
	}
	return x, p.Kind != api.PatKind || x.Kind == p.N
}

func (f *filling) comeAll(p api.Pattern) (api.Term, bool) {
	x := api.Term{Kind: api.KindTuple}
	if p.Kind == api.PatList {
		x.Kind = api.KindList
	}
	all := true
	for _, y := range p.L {
		z, ok := f.come(y)
		x.L = append(x.L, z)
		all = all && ok
	}
	for _, y := range p.Rest {
		z, ok := f.come(y)
		x.L = append(x.L, z.L...)
		all = all && ok && z.Kind == api.KindList
	}
	return x, all
}

// openPlaces is in how many places of a pattern anything may stand.
func openPlaces(p api.Pattern) int {
	n := 0
	if p.Kind == api.PatAny || p.Kind == api.PatVar || p.Kind == api.PatKind {
		n++
	}
	for _, x := range slices.Concat(p.L, p.Rest) {
		n += openPlaces(x)
	}
	return n
}

// fillings calls do with all rows of so many of some terms.
func fillings(l []api.Term, n int, do func([]api.Term)) {
	row := make([]api.Term, n)
	var fill func(i int)
	fill = func(i int) {
		if i == n {
			do(row)
			return
		}
		for _, x := range l {
			row[i] = x
			fill(i + 1)
		}
	}
	fill(0)
}

// Whether a pattern matches is found by trying all that may stand in it.
func TestPa4MatchesWhatComesOfThePattern(t *testing.T) {
	matched := 0
	hold := func(ps []api.Pattern, l []api.Term) {
		for _, x := range l {
			parts := inside(x)
			for _, p := range ps {
				next := api.MaxLocals
				p = numbered(p, &next)
				var binds []api.Bind
				ways := 0
				fillings(parts, openPlaces(p), func(row []api.Term) {
					f := filling{open: row}
					if y, ok := f.come(p); ok && sameTerm(x, y) {
						binds = f.binds
						ways++
					}
				})
				if ways > 1 {
					t.Fatalf("%s comes to %v in %d ways", show(p), x, ways)
				}
				wantMatch(t, p, x, binds, ways == 1, api.OK)
				matched += ways
			}
		}
	}
	hold(upTo(3, patternsOf), upTo(4, termsOf))
	hold(patternsOf(4), upTo(3, termsOf))
	if matched < 1000 {
		t.Error("too few match:", matched)
	}
}

func TestPa5ThereAndBack(t *testing.T) {
	try := func(p api.Pattern) {
		s, e := pattern.Print(p)
		if e != api.OK {
			t.Fatalf("Print(%s): %d", show(p), e)
		}
		wantParse(t, s, p, api.OK, 0)
	}
	for _, p := range upTo(4, patternsOf) {
		next := api.MaxLocals
		try(numbered(p, &next))
	}
	var few []api.Pattern
	for _, x := range samples() {
		try(x.p)
		if parts, deep := size(x.p); parts < api.MaxParts && deep < api.MaxDeep-1 {
			try(tup(x.p, just(atom("a"))))
			try(ahead(x.p, whatever()))
		}
		if x.p.Kind != api.PatVar && x.p.Kind <= api.PatKind {
			few = append(few, x.p)
		}
	}
	try(tup(few...))
	try(ahead(lst(few...), few...))
}

func TestPa5BackAndThere(t *testing.T) {
	count := 0
	try := func(s string) {
		p, e, _ := pattern.Parse(s)
		if e != api.OK {
			return
		}
		count++
		wantCheck(t, p, api.MaxLocals, api.OK)
		printed, e := pattern.Print(p)
		if e != api.OK {
			t.Fatalf("Print of %q: %d", short(s), e)
		}
		wantParse(t, printed, p, api.OK, 0)
		again, _ := pattern.Print(read(t, printed))
		if again != printed {
			t.Errorf("%q is printed as %q, then as %q", short(s), short(printed), short(again))
		}
	}
	strung(strings.Split("{}[],|_$1a ", ""), 5, try)
	strung([]string{"[", "]", "|", ",", "_ ", "$0", "$1 "}, 6, try)
	strung([]string{"{", "}", ",", ":int", "-1", "[]", "\n"}, 5, try)
	for _, x := range samples() {
		try(spread(x.s, "\n"))
		try(strings.ReplaceAll(x.s, " ", ""))
	}
	if count < 1000 {
		t.Error("too few texts were read:", count)
	}
}

// Unlike patterns have unlike texts, else one of them would not come back.
func TestPa5UnlikePatternsHaveUnlikeTexts(t *testing.T) {
	texts := map[string]api.Pattern{}
	for _, p := range upTo(4, patternsOf) {
		next := 1 + 3
		p = numbered(p, &next)
		s, e := pattern.Print(p)
		if other, ok := texts[s]; ok && !same(other, p) || e != api.OK {
			t.Errorf("%q is the text of two: %v, %v, %d", s, p, other, e)
		}
		texts[s] = p
	}
	if len(texts) < 1000 {
		t.Error("too few:", len(texts))
	}
}

// firstOf is First, by Match alone.
func firstOf(l []api.Term, from int, ps []api.Pattern) (at, arm int, binds []api.Bind, e api.Errno) {
	for at := from; at < len(l); at++ {
		for arm, p := range ps {
			if binds, ok, _ := pattern.Match(p, l[at]); ok {
				return at, arm, binds, api.OK
			}
		}
	}
	return 0, 0, nil, api.ErrNone
}

func TestPa6FirstIsTheFirstMatch(t *testing.T) {
	var ps []api.Pattern
	for _, s := range []string{"$0", "_", "a", "{$3}", "{a, $1}", "[$0 | $1]", "[]", ":tuple"} {
		ps = append(ps, read(t, s))
	}
	var l []api.Term
	for _, s := range []string{"a", "b", "{a}", "{a, 1}", "[1, 2]", "[]"} {
		l = append(l, readTerm(t, s))
	}
	none := 0
	for _, a := range l {
		for _, b := range l {
			for _, c := range l {
				for _, p := range ps {
					for _, q := range ps {
						for from := range 4 {
							row, arms := []api.Term{a, b, c}, []api.Pattern{p, q}
							at, arm, binds, e := firstOf(row, from, arms)
							wantFirst(t, row, from, arms, at, arm, binds, e)
							none += int(e)
						}
					}
				}
			}
		}
	}
	if none == 0 {
		t.Error("all match")
	}
}
