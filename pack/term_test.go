package pack_test

import (
	"math"
	"strings"
	"testing"

	"carousel/api"
	"carousel/pack"
)

// full are the nine bytes of the greatest count: all of their bits are set.
const full = "\xff\xff\xff\xff\xff\xff\xff\xff\x7f"

type termRow struct {
	t api.Term
	s string
}

// terms are some of each kind, with their bytes.
func terms() []termRow {
	return []termRow{
		{null(), by(1)},
		{boolean(0), by(2, 0)}, {boolean(1), by(2, 1)},
		{in(0), by(3, 0)}, {in(-1), by(3, 1)}, {in(1), by(3, 2)}, {in(-2), by(3, 3)}, {in(2), by(3, 4)}, {in(-3), by(3, 5)},
		{in(63), by(3, 126)}, {in(-64), by(3, 127)}, {in(64), by(3, 128, 1)}, {in(-65), by(3, 129, 1)},
		{in(8191), by(3, 254, 127)}, {in(-8192), by(3, 255, 127)}, {in(8192), by(3, 128, 128, 1)}, {in(-8193), by(3, 129, 128, 1)},
		{in(1 << 55), "\x03" + strings.Repeat("\x80", 8) + "\x01"}, {in(1<<55 - 1), "\x03\xfe" + strings.Repeat("\xff", 6) + "\x7f"},
		{in(api.MaxInt), "\x03\xfe" + full[1:]}, {in(api.MinInt), "\x03\xfd" + full[1:]}, {in(api.MaxInt - 1), "\x03\xfc" + full[1:]},
		{comp(0, 0), by(4, 0, 0)}, {comp(1, 2), by(4, 2, 4)}, {comp(-1, 0), by(4, 1, 0)}, {comp(0, -1), by(4, 0, 1)}, {comp(63, 64), by(4, 126, 128, 1)}, {comp(64, 63), by(4, 128, 1, 126)},
		{comp(1<<30, -1<<30), by(4, 128, 128, 128, 128, 8, 255, 255, 255, 255, 7)}, {comp(-1<<30, 1<<30), by(4, 255, 255, 255, 255, 7, 128, 128, 128, 128, 8)}, {comp(1<<30, 1<<30), by(4, 128, 128, 128, 128, 8, 128, 128, 128, 128, 8)},
		{atom("a"), by(5, 1, 97)}, {atom("zZ_9"), by(5, 4, 'z', 'Z', '_', '9')}, {atom(strings.Repeat("q", 64)), by(5, 64) + strings.Repeat("q", 64)},
		{pid(0, 1), by(6, 0, 1)}, {pid(3, 300), by(6, 3, 172, 2)}, {pid(127, 127), by(6, 127, 127)}, {pid(128, 128), by(6, 128, 1, 128, 1)}, {pid(255, 1<<14), by(6, 255, 1, 128, 128, 1)}, {pid(255, api.MaxInt), by(6, 255, 1) + full[:8] + "\x3f"},
		{ref(1), by(7, 1)}, {ref(127), by(7, 127)}, {ref(128), by(7, 128, 1)}, {ref(1<<14 - 1), by(7, 255, 127)}, {ref(1 << 14), by(7, 128, 128, 1)}, {ref(api.MaxInt), "\x07" + full[:8] + "\x3f"}, {ref(api.MaxInt - 1), "\x07\xfe" + full[1:8] + "\x3f"},
		{tuple(), by(8, 0)}, {list(), by(9, 0)}, {tuple(atom("a")), by(8, 1, 5, 1, 97)}, {list(null(), in(-3)), by(9, 2, 1, 3, 5)},
		{tuple(list(), tuple(), list(null())), by(8, 3, 9, 0, 8, 0, 9, 1, 1)}, {list(comp(1, -1), pid(1, 2), boolean(1), ref(3), atom("b")), by(9, 5, 4, 2, 1, 6, 1, 2, 2, 1, 7, 3, 5, 1, 98)},
		{nulls(127), by(9, 127) + strings.Repeat("\x01", 127)}, {nulls(128), by(9, 128, 1) + strings.Repeat("\x01", 128)}, {nulls(1023), by(9, 255, 7) + strings.Repeat("\x01", 1023)},
		{deepTerm(1), by(8, 1, 3, 0)}, {deepTerm(2), by(9, 1, 8, 1, 3, 0)}, {deepTerm(63), "\x08\x01" + strings.Repeat("\x09\x01\x08\x01", 31) + "\x03\x00"},
	}
}

func TestP81TermsThereAndBack(t *testing.T) {
	for _, x := range terms() {
		wantTerm(t, x.t, x.s)
		if s := modelTerm(x.t); s != x.s {
			t.Errorf("the test's own model: %s, not %s", show(s), show(x.s))
		}
	}
}

// Each number about the edges of its bytes.
func TestP81Numbers(t *testing.T) {
	for bits := range 63 {
		for _, n := range []int{1<<bits - 2, 1<<bits - 1, 1 << bits, 1<<bits + 1} {
			if n > api.MaxInt || n < 1 {
				continue
			}
			wantTerm(t, in(n), "\x03"+num(n))
			wantTerm(t, in(-n), "\x03"+num(-n))
			wantTerm(t, ref(n), "\x07"+c(n))
			wantTerm(t, pid(n%256, n), "\x06"+c(n%256, n))
			if x := float64(n); n <= api.MaxPart {
				wantTerm(t, comp(x, -x), "\x04"+num(n)+num(-n))
				wantTerm(t, comp(-x, x), "\x04"+num(-n)+num(n))
			}
		}
	}
}

// What layer 3 refuses is told as it tells it.
func TestP81TermsThatMayNotBe(t *testing.T) {
	for _, x := range []api.Term{
		{}, {Kind: -1}, {Kind: 10}, {Kind: most}, {N: 1}, boolean(2), boolean(-1), in(api.MaxInt + 1), in(api.MinInt - 1), in(least), in(most), ref(0), ref(-1), ref(most), pid(0, 0), pid(256, 1), pid(-1, 1), pid(0, most),
		atom(""), atom("nil"), atom("A"), atom("a b"), atom(strings.Repeat("q", 65)), comp(1<<30+1, 0), comp(0, -1<<30-1), comp(0.5, 0), comp(math.NaN(), 0), comp(math.Inf(1), 0), comp(math.Copysign(0, -1), 0), comp(0, math.Copysign(0, -1)),
		{Kind: api.KindNil, N: 1}, {Kind: api.KindInt, S: "a"}, {Kind: api.KindAtom, S: "a", L: []api.Term{null()}}, tuple(api.Term{}), list(in(1), list(atom("true"))), tuple(ref(0), endlessTerm()),
	} {
		wantRefusedTerm(t, x, api.ErrTerm)
	}
	for _, x := range []api.Term{nulls(1024), deepTerm(64), deepTerm(65), deepTerm(1000), endlessTerm(), tuple(endlessTerm(), ref(0)), tuple(nulls(1022), null())} {
		wantRefusedTerm(t, x, api.ErrParts)
	}
	wantTerm(t, nulls(1023), c(9, 1023)+strings.Repeat("\x01", 1023))
	// What lies behind the end of a list is none of it.
	room := []api.Term{null(), in(1), {Kind: 99}}
	wantTerm(t, list(room[:2]...), by(9, 2, 1, 3, 2))
}

// badCounts are counts that can not be read, whatever stands behind them.
func badCounts() []string {
	l := []string{
		"\x80\x00", "\x81\x00", "\x85\x00", "\xff\x00", "\x80\x80\x00", "\xff\xff\x00", full[:8] + "\x00", strings.Repeat("\x80", 8) + "\x00",
		full[:8] + "\x80", full[:8] + "\xff", // ten bytes at least
		full[:8] + "\x80\x00", full[:8] + "\x80\x01", full[:8] + "\xff\x01", strings.Repeat("\x80", 9) + "\x01", strings.Repeat("\x80", 9) + "\x02", strings.Repeat("\xff", 9) + "\x7f", strings.Repeat("\x80", 9) + "\x00",
	}
	for _, n := range []int{10, 11, 18, 19, 63, 64, 65, 1000} {
		l = append(l, strings.Repeat("\x80", n)+"\x01", strings.Repeat("\xff", n)+"\x01", strings.Repeat("\x80", n)+"\x00", strings.Repeat("\x80", n), strings.Repeat("\xff", n))
	}
	return l
}

// cutCounts are counts that can not be read, if nothing stands behind them.
func cutCounts() []string {
	var l []string
	for n := range 9 {
		l = append(l, strings.Repeat("\x80", n), strings.Repeat("\xff", n), strings.Repeat("\x81", n))
	}
	return l
}

// edges are counts of all widths.
func edges() []int {
	l := []int{0, 1, 2, 63, 64, most - 1, most}
	for bits := 7; bits < 63; bits += 7 {
		l = append(l, 1<<bits-1, 1<<bits, 1<<bits+1)
	}
	return l
}

func TestP83Counts(t *testing.T) {
	for _, ahead := range []string{"", "\x02", "\x03", "\x04", "\x04\x00", "\x05", "\x06", "\x06\x00", "\x07", "\x08", "\x09", "\x08\x01", "\x09\x02\x01", "\x08\x01\x07"} {
		for _, s := range badCounts() {
			for _, behind := range []string{"", "\x00", "\x01\x01\x01\x01", strings.Repeat("\x01", 300)} {
				wantNoTerm(t, ahead+s+behind, api.ErrPack)
			}
		}
		for _, s := range cutCounts() {
			wantNoTerm(t, ahead+s, api.ErrPack)
		}
	}
}

// What can be read and may not be is told as layer 3 tells it.
func TestP83ReadTermsThatMayNotBe(t *testing.T) {
	for _, n := range edges() {
		if n > 1 {
			wantNoTerm(t, "\x02"+c(n), api.ErrTerm)
		}
		if n < 256 {
			wantTermOf(t, "\x06"+c(n, 1), pid(n, 1), len(c(n))+2)
		} else {
			wantNoTerm(t, "\x06"+c(n, 1), api.ErrTerm)
		}
		if n >= 1 && n <= api.MaxInt {
			wantTermOf(t, "\x07"+c(n), ref(n), 1+len(c(n)))
			wantTermOf(t, "\x06"+c(9, n), pid(9, n), 2+len(c(n)))
		} else {
			wantNoTerm(t, "\x07"+c(n), api.ErrTerm)
			wantNoTerm(t, "\x06"+c(9, n), api.ErrTerm)
		}
	}
	wantNoTerm(t, "\x03"+full, api.ErrTerm) // -2^62
	wantNoTerm(t, "\x03"+full+"zz", api.ErrTerm)
	wantTermOf(t, "\x03\xfe"+full[1:], in(api.MaxInt), 10)
	wantNoTerm(t, "\x06\x00\x00", api.ErrTerm)
	wantNoTerm(t, "\x07"+c(api.MaxInt+1), api.ErrTerm)
	for _, s := range []string{"", "nil", "true", "false", "A", "_", "a b", "\x00", "\xff", "a\x80", "é", strings.Repeat("q", 65), strings.Repeat("q", 128), strings.Repeat("q", 1<<14)} {
		wantNoTerm(t, "\x05"+name(s), api.ErrTerm)
		wantNoTerm(t, "\x08\x02\x01\x05"+name(s)+"z", api.ErrTerm)
	}
	ones := strings.Repeat("\x01", 2000)
	wantNoTerm(t, c(9, 1024)+ones, api.ErrParts)
	wantNoTerm(t, c(8, 1999)+ones, api.ErrParts)
	wantTermOf(t, c(9, 1023)+ones, nulls(1023), 1026)
	// Of two that may not be the first one is told, if all can be read.
	wantNoTerm(t, "\x09\x02\x07\x00"+c(9, 1024)+ones, api.ErrTerm)
	wantNoTerm(t, "\x09\x02"+c(9, 1024)+strings.Repeat("\x01", 1024)+"\x07\x00", api.ErrParts)
	wantNoTerm(t, "\x09\x02\x07\x00\x0a", api.ErrPack)
	wantNoTerm(t, "\x09\x02\x0a\x07\x00", api.ErrPack)
}

func TestP83Kinds(t *testing.T) {
	body := map[int]string{1: "", 2: "\x01", 3: "\x05", 4: "\x02\x04", 5: "\x01a", 6: "\x03\x01", 7: "\x01", 8: "\x00", 9: "\x01\x01"}
	for _, n := range append(edges(), 3, 4, 5, 6, 7, 8, 9, 10, 11, 12, 16, 17, 255, 256, 257, 265, 1<<32+1) {
		s := c(n) + body[n]
		if n >= 1 && n <= 9 {
			x, at, e := pack.TermOf(s + "\x00\x00\x00")
			if x.Kind != n || at != len(s) || e != api.OK {
				t.Errorf("TermOf(%s): kind %d, %d, %d", show(s), x.Kind, at, e)
			}
			continue
		}
		for _, behind := range []string{"", "\x00", "\x01", "\x01\x01\x01\x01\x01\x01"} {
			wantNoTerm(t, s+behind, api.ErrPack)
			wantNoTerm(t, "\x08\x01"+s+behind, api.ErrPack)
			wantNoTerm(t, "\x09\x02\x01"+s+behind, api.ErrPack)
		}
	}
	wantNoTerm(t, "", api.ErrPack)
	wantNoTerm(t, "\x00", api.ErrPack)
}

func TestP83NamesAndLengths(t *testing.T) {
	for _, n := range []int{0, 1, 2, 63, 64} {
		s := strings.Repeat("q", n)
		want := api.ErrPack
		wantNoTerm(t, "\x05"+c(n+1)+s, want)
		wantNoTerm(t, "\x05"+c(n+2)+s, want)
		wantNoTerm(t, "\x05"+c(n+128)+s, want)
		if n > 0 {
			wantTermOf(t, "\x05"+c(n)+s, atom(s), 2+n)
			wantTermOf(t, "\x05"+c(n)+s+"q", atom(s), 2+n)
		} else {
			wantNoTerm(t, "\x05\x00", api.ErrTerm)
			wantNoTerm(t, "\x05\x00q", api.ErrTerm)
		}
	}
	for _, n := range []int{0, 1, 2, 126, 127, 128, 129, 1000, 1023} {
		s := strings.Repeat("\x01", n)
		for kind, x := range map[int]api.Term{8: tuple(nulls(n).L...), 9: nulls(n)} {
			wantTermOf(t, c(kind, n)+s, x, 1+len(c(n))+n)
			wantNoTerm(t, c(kind, n+1)+s, api.ErrPack)
			wantNoTerm(t, c(kind, n+1000)+s, api.ErrPack)
			wantNoTerm(t, c(kind, most)+s, api.ErrPack)
			wantNoTerm(t, "\x08\x01"+c(kind, n+1)+s, api.ErrPack)
		}
	}
	for _, n := range edges() {
		if n > 0 {
			wantNoTerm(t, "\x05"+c(n), api.ErrPack)
			wantNoTerm(t, "\x08"+c(n), api.ErrPack)
			wantNoTerm(t, "\x09"+c(n), api.ErrPack)
		}
	}
}

func TestP83Parts(t *testing.T) {
	for _, n := range []int{0, 1, -1, 63, 64, -64, -65, 1<<30 - 1, 1 << 30, -1 << 30, -1<<30 + 1} {
		wantTermOf(t, "\x04"+num(n)+num(0), comp(float64(n), 0), 2+len(num(n)))
		wantTermOf(t, "\x04"+num(7)+num(n), comp(7, float64(n)), 2+len(num(n)))
		wantTermOf(t, "\x04"+num(n)+num(n)+"\x01", comp(float64(n), float64(n)), 1+2*len(num(n)))
	}
	for _, n := range []int{1<<30 + 1, -1<<30 - 1, 1<<30 + 2, 1 << 31, -1 << 31, 1 << 32, 1<<32 + 1, 1 << 53, 1<<62 - 1, -1 << 62} {
		wantNoTerm(t, "\x04"+num(n)+num(0), api.ErrPack)
		wantNoTerm(t, "\x04"+num(0)+num(n), api.ErrPack)
		wantNoTerm(t, "\x04"+num(n)+num(n), api.ErrPack)
		wantNoTerm(t, "\x04"+num(n), api.ErrPack)
	}
	// A nought has no sign.
	x, _, _ := pack.TermOf("\x04\x00\x00")
	if math.Signbit(real(x.C)) || math.Signbit(imag(x.C)) {
		t.Error("a nought with a sign")
	}
}

// nest are the bytes of so many tuples or lists in one another, of kinds in turn, and what they are to be of a term.
func nest(kinds string, within int) (string, func(api.Term) api.Term) {
	var b strings.Builder
	for k := range within {
		b.WriteString(kinds[k%len(kinds):][:1] + "\x01")
	}
	return b.String(), func(t api.Term) api.Term {
		for k := range within {
			t = api.Term{Kind: int(kinds[(within-1-k)%len(kinds)]), L: []api.Term{t}}
		}
		return t
	}
}

func TestP83Deep(t *testing.T) {
	for _, kinds := range []string{"\x08", "\x09", "\x08\x09", "\x09\x09\x08"} {
		for within := range 64 {
			s, whole := nest(kinds, within)
			wantTermOf(t, s+"\x03\x00\x01", whole(in(0)), 2*within+2)
			wantTermOf(t, s+"\x08\x00", whole(tuple()), 2*within+2)
			wantTerm(t, whole(list()), s+"\x09\x00")
		}
		for _, within := range []int{64, 65, 66, 100, 1000, 100000} {
			s, _ := nest(kinds, within)
			for _, inner := range []string{"\x01", "\x03\x00", "\x08\x00", "\x00", "\x0a", "\x80", ""} {
				wantNoTerm(t, s+inner, api.ErrPack)
			}
		}
		// One ahead of it that may not be is told only if all can be read.
		s, _ := nest(kinds, 62)
		wantNoTerm(t, "\x09\x02\x07\x00"+s+"\x01", api.ErrTerm)
		s, _ = nest(kinds, 63)
		wantNoTerm(t, "\x09\x02\x07\x00"+s+"\x01", api.ErrPack)
	}
}

func TestP83HowManyBytes(t *testing.T) {
	for _, x := range terms() {
		behind := strings.Repeat("\xff", api.MaxText-len(x.s))
		wantTermOf(t, x.s+behind, x.t, len(x.s))
		wantNoTerm(t, x.s+behind+"\x00", api.ErrLong)
		wantNoTerm(t, x.s+behind+behind, api.ErrLong)
	}
	for _, b := range []string{"\x00", "\x01", "\x80", "\xff", "\x08"} {
		wantNoTerm(t, strings.Repeat(b, api.MaxText+1), api.ErrLong)
		wantNoTerm(t, strings.Repeat(b, 1<<20), api.ErrLong)
	}
	wantNoTerm(t, strings.Repeat("\xff", api.MaxText), api.ErrPack)
	wantNoTerm(t, strings.Repeat("\x08\x01", api.MaxText/2), api.ErrPack)
	wantTermOf(t, strings.Repeat("\x01", api.MaxText), null(), 1)
	// Lists in one another that each promise as many terms as there are bytes, and far more than may be.
	var b strings.Builder
	for range 60 {
		b.WriteString(c(9, 200000))
	}
	wantNoTerm(t, b.String()+strings.Repeat("\x01", 201000), api.ErrPack)
	all := c(9, 1<<18-4)
	wantNoTerm(t, all+strings.Repeat("\x01", api.MaxText-len(all)), api.ErrParts)
	wantNoTerm(t, "\x05"+c(1<<18-4)+strings.Repeat("a", 1<<18-4), api.ErrTerm)
}

func TestP84TermsThereAndBack(t *testing.T) {
	x := numbers(4)
	seen := map[string]int{}
	for range 20000 {
		a := x.term(5)
		s := modelTerm(a)
		wantTerm(t, a, s)
		seen[s] = a.Kind
	}
	if len(seen) < 5000 {
		t.Error("too few terms:", len(seen))
	}
	// Whatever is a term's, nothing shorter is.
	for s := range seen {
		if len(s) > 40 {
			continue
		}
		for k := range len(s) {
			wantNoTerm(t, s[:k], api.ErrPack)
		}
	}
	for _, x := range terms() {
		for k := range len(x.s) {
			wantNoTerm(t, x.s[:k], api.ErrPack)
		}
	}
}
