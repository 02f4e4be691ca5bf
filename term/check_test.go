package term_test

import (
	"math"
	"slices"
	"strings"
	"testing"

	"carousel/api"
	"carousel/term"
)

func TestTe1CheckTakes(t *testing.T) {
	for _, x := range samples() {
		if e := term.Check(x); e != api.OK {
			t.Errorf("Check(%v): %d", x, e)
		}
	}
	for _, s := range []string{"a", "z", "nul", "nill", "nIL", "true1", "false_", "aZ", "a9_", strings.Repeat("q", 64)} {
		if e := term.Check(atom(s)); e != api.OK {
			t.Errorf("Check of the atom %q: %d", s, e)
		}
	}
}

func TestTe1CheckRefuses(t *testing.T) {
	for _, x := range []api.Term{
		{}, {Kind: -1}, {Kind: api.KindList + 1}, {Kind: least}, {Kind: most},
		{Kind: api.KindBool, N: -1}, {Kind: api.KindBool, N: 2}, {Kind: api.KindBool, N: most},
		in(api.MaxInt + 1), in(api.MinInt - 1), in(most), in(least),
		pid(-1, 1), pid(256, 1), pid(0, 0), pid(0, -1), pid(0, api.MaxInt+1), pid(most, 1), pid(least, 1), pid(3, least), pid(3, most),
		ref(0), ref(-1), ref(api.MaxInt + 1), ref(least), ref(most),
	} {
		if e := term.Check(x); e != api.ErrTerm {
			t.Errorf("Check(%v): %d", x, e)
		}
	}
	for _, s := range []string{
		"", "nil", "true", "false", "A", "Ab", "1", "1a", "_", "_a", "a b", " a", "a ", "a-b", "a.", "a\x00", "\x00", "é", "aé", "a\xff", "`", "{", "a`", "a{", "a@", "a[", "a/", "a:",
		strings.Repeat("q", 65), strings.Repeat("q", 1000),
	} {
		if e := term.Check(atom(s)); e != api.ErrTerm {
			t.Errorf("Check of the atom %q: %d", s, e)
		}
	}
}

// Which bytes an atom may begin with, and which it may have behind its first one.
func TestTe1CheckOfEachByte(t *testing.T) {
	const small, others = "abcdefghijklmnopqrstuvwxyz", "ABCDEFGHIJKLMNOPQRSTUVWXYZ0123456789_"
	for b := range 256 {
		s := string([]byte{byte(b)})
		for whole, may := range map[string]bool{s: strings.Contains(small, s), "q" + s: strings.Contains(small+others, s), "q" + s + "q": strings.Contains(small+others, s)} {
			want := api.ErrTerm
			if may {
				want = api.OK
			}
			if e := term.Check(atom(whole)); e != want {
				t.Errorf("Check of the atom %q: %d", whole, e)
			}
		}
	}
}

func TestTe1CheckOfParts(t *testing.T) {
	for _, x := range []float64{0, 1, -1, 12345, part - 1, part, -part} {
		for _, c := range []complex128{complex(x, 0), complex(0, x), complex(x, x)} {
			if e := term.Check(api.Term{Kind: api.KindComplex, C: c}); e != api.OK {
				t.Errorf("Check of %v: %d", c, e)
			}
		}
	}
	for _, x := range []float64{
		noughtBelow, 0.5, -0.5, 1.25, part - 0.5, -part + 0.5, part + 1, -part - 1, part + 0.5, 1 << 62, -1 << 62, 1e300, -1e300,
		math.SmallestNonzeroFloat64, -math.SmallestNonzeroFloat64, math.Inf(1), math.Inf(-1), math.NaN(),
	} {
		for _, c := range []complex128{complex(x, 0), complex(0, x), complex(x, x), complex(1, x), complex(x, 1)} {
			if e := term.Check(api.Term{Kind: api.KindComplex, C: c}); e != api.ErrTerm {
				t.Errorf("Check of %v: %d", c, e)
			}
		}
	}
}

// ownField is a kind's own field, by its place in fields.
func ownField(kind int) int {
	return map[int]int{api.KindBool: 0, api.KindInt: 0, api.KindRef: 0, api.KindComplex: 1, api.KindAtom: 2, api.KindPid: 3, api.KindTuple: 4, api.KindList: 4}[kind]
}

func TestTe1CheckOfFieldsThatAreNotNamed(t *testing.T) {
	fields := []func(x *api.Term){
		func(x *api.Term) { x.N = 1 },
		func(x *api.Term) { x.C = 1 },
		func(x *api.Term) { x.S = "a" },
		func(x *api.Term) { x.P.Gen = 1 },
		func(x *api.Term) { x.L = []api.Term{in(1)} },
		func(x *api.Term) { x.N = -1 },
		func(x *api.Term) { x.C = 1i },
		func(x *api.Term) { x.S = " " },
		func(x *api.Term) { x.P.N = 1 },
		func(x *api.Term) { x.L = []api.Term{{}} },
		func(x *api.Term) { x.N = least },
		func(x *api.Term) { x.C = complex(math.NaN(), 0) },
		func(x *api.Term) { x.S = "\x00" },
		func(x *api.Term) { x.P.Gen = -1 },
		func(x *api.Term) { x.L = wide(2000).L },
	}
	for _, x := range samples() {
		for i, set := range fields {
			if i%5 == ownField(x.Kind) && x.Kind != api.KindNil {
				continue
			}
			y := x
			set(&y)
			if e := term.Check(y); e != api.ErrTerm {
				t.Errorf("Check(%v): %d", y, e)
			}
			if e := term.Check(tuple(in(1), y)); e != api.ErrTerm {
				t.Errorf("Check of a tuple with %v: %d", y, e)
			}
		}
		if !slices.Contains([]int{api.KindTuple, api.KindList}, x.Kind) {
			x.L = []api.Term{}
			if e := term.Check(x); e != api.OK {
				t.Errorf("Check(%v), with the empty list: %d", x, e)
			}
		}
	}
}

func TestTe1Bounds(t *testing.T) {
	for _, x := range []struct {
		name        string
		t           api.Term
		parts, deep int
		e           api.Errno
	}{
		{"nil", null(), 1, 1, api.OK},
		{"the empty tuple", tuple(), 1, 1, api.OK},
		{"{a, {b, []}, c}", tuple(atom("a"), tuple(atom("b"), list()), atom("c")), 6, 3, api.OK},
		{"1024 parts", wide(1024), 1024, 2, api.OK},
		{"1025 parts", wide(1025), 0, 0, api.ErrParts},
		{"1024 parts of two", list(wide(512), wide(511)), 1024, 3, api.OK},
		{"1025 parts of two", list(wide(512), wide(512)), 0, 0, api.ErrParts},
		{"1025 parts, the last one deep", list(wide(1022), tuple(in(1))), 0, 0, api.ErrParts},
		{"1024 parts, the last one deep", list(wide(1021), tuple(in(1))), 1024, 3, api.OK},
		{"a million parts", wide(1 << 20), 0, 0, api.ErrParts},
		{"64 deep", deepOf(63, in(1)), 64, 64, api.OK},
		{"64 deep, empty within", deepOf(63, list()), 64, 64, api.OK},
		{"65 deep", deepOf(64, in(1)), 0, 0, api.ErrParts},
		{"65 deep, behind others", list(in(1), deepOf(63, in(1))), 0, 0, api.ErrParts},
		{"64 deep, behind others", list(in(1), deepOf(62, in(1)), in(2)), 66, 64, api.OK},
		{"100000 deep", deepOf(100000, in(1)), 0, 0, api.ErrParts},
		{"1024 parts, 64 deep", list(deepOf(62, in(1)), wide(960)), 1024, 64, api.OK},
		{"an endless list", endless(api.KindList), 0, 0, api.ErrParts},
		{"an endless tuple", endless(api.KindTuple), 0, 0, api.ErrParts},
		{"a list with an endless one", list(in(1), endless(api.KindTuple)), 0, 0, api.ErrParts},
	} {
		if e := term.Check(x.t); e != x.e {
			t.Errorf("Check of %s: %d, not %d", x.name, e, x.e)
		}
		if p, d, e := term.Parts(x.t); p != x.parts || d != x.deep || e != x.e {
			t.Errorf("Parts of %s: %d, %d, %d", x.name, p, d, e)
		}
	}
	for name, x := range wrongs() {
		if p, d, e := term.Parts(x.t); p != 0 || d != 0 || e != x.e {
			t.Errorf("Parts of %s: %d, %d, %d", name, p, d, e)
		}
	}
}

// with is a list of that many parts, one of which is no term.
func with(parts, wrong int) api.Term {
	x := wide(parts)
	x.L[wrong-2] = api.Term{}
	return x
}

func TestTe1TheFirstPartCounts(t *testing.T) {
	wrongList := list(wide(2000).L...)
	wrongList.N = 1
	for name, x := range map[string]struct {
		t api.Term
		e api.Errno
	}{
		"part 1024 is none, part 1025 stands":      {with(1025, 1024), api.ErrTerm},
		"part 1025 is none":                        {with(1025, 1025), api.ErrParts},
		"part 1026 is none":                        {with(1026, 1026), api.ErrParts},
		"part 2 is none, of 2000":                  {with(2000, 2), api.ErrTerm},
		"part 2000 is none":                        {with(2000, 2000), api.ErrParts},
		"a list that may not be, too wide":         {wrongList, api.ErrTerm},
		"none ahead of too deep":                   {list(api.Term{}, deepOf(63, in(1))), api.ErrTerm},
		"too deep ahead of none":                   {list(deepOf(63, in(1)), api.Term{}), api.ErrParts},
		"none, 64 deep":                            {deepOf(63, api.Term{}), api.ErrTerm},
		"none, 65 deep":                            {deepOf(64, api.Term{}), api.ErrParts},
		"none behind a whole term":                 {list(wide(1000), api.Term{}), api.ErrTerm},
		"none within, ahead of one too many":       {list(list(in(1), api.Term{}), wide(1024)), api.ErrTerm},
		"a term's own terms, then the next":        {list(wide(1022), tuple(in(1)), api.Term{}), api.ErrParts},
		"a term's own terms, then none":            {list(wide(1021), tuple(in(1)), api.Term{}), api.ErrParts},
		"one too many behind none in the last":     {list(wide(1021), tuple(api.Term{}), in(1)), api.ErrTerm},
		"an int with terms, the first one endless": {api.Term{Kind: api.KindInt, L: []api.Term{endless(api.KindList)}}, api.ErrTerm},
	} {
		if e := term.Check(x.t); e != x.e {
			t.Errorf("Check of %s: %d, not %d", name, e, x.e)
		}
		if p, d, e := term.Parts(x.t); p != 0 || d != 0 || e != x.e {
			t.Errorf("Parts of %s: %d, %d, %d, not %d", name, p, d, e, x.e)
		}
	}
}

func TestTe1Compare(t *testing.T) {
	l := samples()
	for i, a := range l {
		for j, b := range l {
			want := 0
			if i < j {
				want = -1
			} else if i > j {
				want = 1
			}
			if k, e := term.Compare(a, b); k != want || e != api.OK {
				t.Errorf("Compare(%v, %v): %d, %d, not %d", a, b, k, e, want)
			}
		}
	}
}

func TestTe1CompareNilIsTheEmptyList(t *testing.T) {
	empty := api.Term{Kind: api.KindTuple, L: []api.Term{}}
	if k, e := term.Compare(empty, tuple()); k != 0 || e != api.OK {
		t.Error(k, e)
	}
	if k, e := term.Compare(list(empty), list(tuple())); k != 0 || e != api.OK {
		t.Error(k, e)
	}
	long := wide(1024)
	longer := wide(1024)
	longer.L[1022] = in(1)
	if k, e := term.Compare(longer, long); k != 1 || e != api.OK {
		t.Error(k, e)
	}
	if k, e := term.Compare(deepOf(63, in(1)), deepOf(63, in(2))); k != -1 || e != api.OK {
		t.Error(k, e)
	}
}

func TestTe1CompareRefused(t *testing.T) {
	for name, x := range wrongs() {
		for _, a := range samples() {
			if k, e := term.Compare(x.t, a); k != 0 || e != x.e {
				t.Errorf("Compare of %s: %d, %d", name, k, e)
			}
			if k, e := term.Compare(a, x.t); k != 0 || e != x.e {
				t.Errorf("Compare with %s: %d, %d", name, k, e)
			}
		}
		for other, y := range wrongs() {
			if k, e := term.Compare(x.t, y.t); k != 0 || e != x.e {
				t.Errorf("Compare of %s with %s: %d, %d", name, other, k, e)
			}
		}
	}
}
