package pack_test

import (
	"strings"
	"testing"

	"carousel/api"
	"carousel/pack"
)

// opening is a place of a module at which a count is to be read: all that stands ahead of it, what it is to be there, and the place that is told if the bytes end just there.
type opening struct {
	ahead string
	sort  byte
	cut   int
}

// The sorts of counts: t a term's Kind, p a pattern's, o an Op, r how many a Rest has, l how many follow, n a name's, x a complex number's part, c and s a count and a number that may be any.

func at(ahead string, sort byte) opening { return opening{ahead, sort, len(ahead)} }

// first is what stands right behind the count that promises it, and those ahead of it: if nothing is there, that count is more than what is left.
func first(ahead, count string, sort byte) opening { return opening{ahead + count, sort, len(ahead)} }

// ofTerm are the openings of a term; its own Kind is none of them.
func ofTerm(ahead string) []opening {
	return []opening{
		at(ahead+"\x02", 'c'), at(ahead+"\x03", 's'), at(ahead+"\x04", 'x'), at(ahead+"\x04\x05", 'x'), at(ahead+"\x04\x80\x01", 'x'), at(ahead+"\x05", 'n'), at(ahead+"\x06", 'c'), at(ahead+"\x06\x03", 'c'), at(ahead+"\x07", 'c'),
		at(ahead+"\x08", 'l'), at(ahead+"\x09", 'l'), first(ahead+"\x08", "\x01", 't'), first(ahead+"\x09", "\x01", 't'), first(ahead+"\x09", "\x03\x01\x01", 't'), first(ahead+"\x09\x01\x08", "\x01", 't'),
		at(ahead+"\x09\x02\x08\x00\x05", 'n'), at(ahead+"\x08\x01\x09\x01\x07", 'c'), at(ahead+"\x09\x01\x04\x01", 'x'),
	}
}

// ofPattern are likewise a pattern's.
func ofPattern(ahead string) []opening {
	l := []opening{
		at(ahead+"\x02", 'c'), at(ahead+"\x04", 'c'), at(ahead+"\x03", 't'), at(ahead+"\x05", 'l'), at(ahead+"\x06", 'l'),
		first(ahead+"\x05", "\x01", 'p'), first(ahead+"\x05", "\x02\x01", 'p'), first(ahead+"\x06", "\x01", 'p'),
		at(ahead+"\x06\x00", 'r'), at(ahead+"\x06\x01\x01", 'r'), first(ahead+"\x06\x00", "\x01", 'p'), first(ahead+"\x06\x02\x01\x01", "\x01", 'p'), at(ahead+"\x06\x00\x01\x06\x00", 'r'), at(ahead+"\x06\x00\x01\x02", 'c'),
	}
	return append(l, ofTerm(ahead+"\x03")...)
}

func ofInstr(ahead string) []opening {
	l := []opening{at(ahead+"\x01", 't'), at(ahead+"\x22", 'c'), at(ahead+"\x22\x00", 'c'), at(ahead+"\x1b", 'c'), at(ahead+"\x1b\x00", 'l'), at(ahead+"\x21", 'c'), at(ahead+"\x21\x00", 's'), at(ahead+"\x21\x00\x01", 'l')}
	for _, op := range []byte{3, 4, 5, 17, 18, 19, 25, 26, 28} {
		l = append(l, at(ahead+by(op), 'c'))
	}
	for _, arms := range []string{"\x1b\x00", "\x21\x00\x01"} {
		l = append(l, first(ahead+arms, "\x01", 'p'), at(ahead+arms+"\x01\x01", 'c'), first(ahead+arms, "\x03\x01\x00", 'p'))
	}
	l = append(l, ofPattern(ahead+"\x1b\x00\x01")...)
	l = append(l, ofPattern(ahead+"\x21\x00\x01\x02\x01\x00")...)
	return append(l, ofTerm(ahead+"\x01")...)
}

func openings() []opening {
	module := "CRM1" + name("m")
	one := module + c(1) + name("f") + c(0, 0)
	two := module + c(2) + name("f") + c(0, 0, 2) + by(33, 0, 1, 0, 29)
	l := []opening{
		at("CRM1", 'n'), at(module, 'l'), first(module, c(1), 'n'), at(module+c(1)+name("f"), 'c'), at(module+c(1)+name("f")+c(0), 'c'), at(one, 'l'), first(one, c(1), 'o'), first(one, c(2)+by(29), 'o'), at(one+c(2)+by(1, 1), 'o'),
		at(two, 'n'), at(two+name("g"), 'c'), at(two+name("g")+c(0), 'c'), at(two+name("g")+c(0, 0), 'l'),
	}
	l = append(l, ofInstr(one+c(1))...)
	return append(l, ofInstr(two+name("g")+c(0, 0, 2)+by(46))...)
}

// behinds is what may stand behind a count that can not be read: it changes nothing.
func behinds() []string {
	return []string{"", "\x00", "\x01", "\x01\x01\x01\x01\x01\x01\x01\x01", "\xff\xff\xff\xff\xff", strings.Repeat("\x01", 300)}
}

// wantWrongAt asks for the place of an opening at which some bytes can not be read, whatever stands behind them.
func wantWrongAt(t *testing.T, o opening, s string) {
	t.Helper()
	for _, behind := range behinds() {
		wantWrong(t, o.ahead+s+behind, len(o.ahead))
		wantWrong(t, sealed(o.ahead+s+behind), len(o.ahead))
	}
}

// wantRightAt asks for a place behind that of an opening: the bytes end there, if nothing else is wrong.
func wantRightAt(t *testing.T, o opening, s string) {
	t.Helper()
	if m, e, at := pack.Unpack(o.ahead + s); e != api.ErrPack || at <= len(o.ahead) || m.Name != "" {
		t.Errorf("Unpack(%s): %d, %d", show(o.ahead+s), e, at)
	}
}

func TestP82CountsThatCanNotBeRead(t *testing.T) {
	for _, o := range openings() {
		for _, s := range badCounts() {
			wantWrongAt(t, o, s)
		}
		for _, s := range cutCounts() {
			if s != "" {
				wantWrong(t, o.ahead+s, len(o.ahead))
			} else {
				wantWrong(t, o.ahead, o.cut)
			}
		}
	}
}

func TestP82KindsAndOps(t *testing.T) {
	all := map[byte]int{'t': 9, 'p': 6, 'o': 46}
	for _, o := range openings() {
		last := all[o.sort]
		if last == 0 {
			continue
		}
		for n := range 130 {
			if n >= 1 && n <= last {
				wantRightAt(t, o, c(n))
			} else {
				wantWrongAt(t, o, c(n))
			}
		}
		for _, n := range append(edges(), 256, 257, 258, 256+33, 1<<32+1) {
			if n > last {
				wantWrongAt(t, o, c(n))
			}
		}
	}
}

// Where a name ends just with the bytes, it is read; where it has one more, its count is what can not be read.
func TestP82Names(t *testing.T) {
	for _, o := range openings() {
		if o.sort != 'n' {
			continue
		}
		for _, n := range []int{0, 1, 2, 4, 5, 63, 64, 126, 127, 128, 129, 1 << 14} {
			s := strings.Repeat("q", n)
			wantWrong(t, o.ahead+c(n)+s, len(o.ahead+c(n)+s))
			for _, more := range []int{1, 2, 100, 1 << 14, 1 << 32} {
				wantWrong(t, o.ahead+c(n+more)+s, len(o.ahead))
			}
			wantWrong(t, o.ahead+c(most)+s, len(o.ahead))
			wantWrong(t, sealed(o.ahead+c(n+5)+s), len(o.ahead))
			wantRightAt(t, o, c(n+4)+s+"\x01\x01\x01\x01")
		}
	}
}

// Likewise how many terms, patterns, arms, functions and instructions: none of them has less than a byte.
func TestP82Lengths(t *testing.T) {
	for _, o := range openings() {
		if o.sort != 'l' {
			continue
		}
		for _, n := range []int{0, 1, 2, 4, 5, 64, 65, 126, 127, 128, 129, 1025, 1 << 14} {
			s := strings.Repeat("\x01", n)
			wantRightAt(t, o, c(n)+s)
			for _, more := range []int{1, 2, 100, 1 << 14, 1 << 32} {
				wantWrong(t, o.ahead+c(n+more)+s, len(o.ahead))
			}
			wantWrong(t, o.ahead+c(most)+s, len(o.ahead))
			wantWrong(t, sealed(o.ahead+c(n+5)+s), len(o.ahead))
			wantRightAt(t, o, c(n+4)+s+"\x01\x01\x01\x01")
		}
		for _, n := range edges() {
			if n > 0 {
				wantWrong(t, o.ahead+c(n), len(o.ahead))
			}
		}
	}
}

func TestP82Rests(t *testing.T) {
	for _, o := range openings() {
		if o.sort != 'r' {
			continue
		}
		wantRightAt(t, o, c(0))
		wantRightAt(t, o, c(0)+"\x01\x01\x01")
		wantRightAt(t, o, c(1)+"\x01")
		wantRightAt(t, o, c(1)+"\x01\x01")
		wantWrong(t, o.ahead+c(1), len(o.ahead))
		for _, n := range append(edges(), 3, 4, 255, 256, 257) {
			if n > 1 {
				wantWrongAt(t, o, c(n))
			}
		}
	}
	wantModule(t, plain(match(0, arm(lst(), 1), arm(rest(whatever()), 1))), sealed(plainBytes(1, by(27, 0, 2, 6, 0, 0, 1, 6, 0, 1, 1, 1))))
}

func TestP82Parts(t *testing.T) {
	for _, o := range openings() {
		if o.sort != 'x' {
			continue
		}
		for _, n := range []int{0, 1, -1, 63, 64, -64, -65, 1<<30 - 1, 1 << 30, -1 << 30} {
			wantRightAt(t, o, num(n))
		}
		for _, n := range []int{1<<30 + 1, -1<<30 - 1, 1<<30 + 2, 1 << 31, -1 << 31, 1 << 32, -1 << 32, 1<<32 + 1, 1 << 53, 1<<62 - 1, -1 << 62} {
			wantWrongAt(t, o, num(n))
		}
	}
}

// Counts and numbers that may be any are read up to 2^63 - 1; what they may be is layer 6's.
func TestP82PlainCounts(t *testing.T) {
	for _, o := range openings() {
		if o.sort == 'c' || o.sort == 's' {
			for _, n := range edges() {
				wantRightAt(t, o, c(n))
			}
		}
	}
	for _, n := range edges() {
		if n < 1000 {
			continue
		}
		body := "CRM1" + name("m") + c(1) + name("f")
		wantNone(t, sealed(body+c(n, 0, 1)+by(33, 0, 1, 0)), api.ErrModule, 0)
		wantNone(t, sealed(body+c(n, n, 1)+by(33, 0, 1, 0)), api.ErrModule, 0)
		wantNone(t, sealed(body+c(0, n, 1)+by(33, 0, 1, 0)), api.ErrModule, 0)
		for _, op := range []byte{3, 4, 5, 17, 18, 19, 28} {
			wantNone(t, sealed(plainBytes(1, by(op)+c(n))), api.ErrCode, 0)
		}
		for _, s := range []string{"\x19" + c(n), "\x1a" + c(n), "\x1b" + c(n) + "\x00", "\x1b\x00\x01\x01" + c(n), "\x21" + c(n) + "\x02\x00", "\x21\x00\x01\x01\x01" + c(n)} {
			wantNone(t, sealed(plainBytes(1, s)), api.ErrJump, 0)
		}
		for _, s := range []string{"\x22" + c(n, 0), "\x22" + c(0, n), "\x21" + c(n) + "\x01\x00", "\x1b\x00\x01\x02" + c(n) + "\x00", "\x1b\x00\x01\x04" + c(n) + "\x00", "\x01\x02" + c(n), "\x01\x06" + c(n, 1)} {
			wantNone(t, sealed(plainBytes(1, s)), api.ErrCode, 0)
		}
	}
	wantNone(t, sealed(plainBytes(1, "\x21\x00"+full+"\x00")), api.ErrCode, 0) // B: -2^62
	wantNone(t, sealed(plainBytes(1, "\x21\x00\x03\x00")), api.ErrCode, 0)     // B: -2
	wantUnpack(t, sealed(plainBytes(1, "\x21\x00\x01\x00")), plain(recv(0, -1)))
	wantNone(t, sealed(plainBytes(1, "\x01\x03"+full)), api.ErrCode, 0)
	wantUnpack(t, sealed(plainBytes(1, "\x01\x03\xfe"+full[1:])), plain(push(in(api.MaxInt))))
}

func TestP82FourBytesAhead(t *testing.T) {
	right := sealed(plainBytes(1, "\x1d"))
	wantUnpack(t, right, plain(ret()))
	for k := range 4 {
		wantWrong(t, right[:k], 0)
		wantWrong(t, right[k+1:], 0)
		for b := range 256 {
			if s := right[:k] + by(byte(b)) + right[k+1:]; s != right {
				wantWrong(t, s, 0)
				wantWrong(t, sealed(s[:len(s)-4]), 0)
				wantWrong(t, s[:k+1], 0)
			}
		}
	}
	for _, s := range []string{"C", "CR", "CRM", "CRM2", "CRM2..", "crm1", "1MRC", " CRM1", "CRMCRM1", "CRM\x01"} {
		wantWrong(t, s, 0)
		wantWrong(t, sealed(s), 0)
		wantWrong(t, s+right, 0)
	}
	wantWrong(t, "CRM1", 4)
	wantWrong(t, "CRM1\x80", 4)
	wantWrong(t, "CRM1"+right, 4)
	wantWrong(t, "", 0)
}

// Behind the functions stand just four bytes.
func TestP82WhatIsBehind(t *testing.T) {
	for _, x := range instrs() {
		body := plainBytes(1, x.s)
		sum := sealed(body)[len(body):]
		for _, s := range []string{"", sum[:1], sum[:2], sum[:3], sum + "\x00", sum + sum, "\x00" + sum, sum + sum[:1], "\x00\x00\x00", "\x00\x00\x00\x00\x00", strings.Repeat("\x00", 100), sum[1:], sealed(body + "\x00")[len(body):], sealed(body + sum)[len(body):]} {
			wantWrong(t, body+s, len(body))
		}
		wantUnpack(t, body+sum, plain(x.i))
	}
}

func TestP82AnotherSum(t *testing.T) {
	for _, x := range instrs() {
		body := plainBytes(1, x.s)
		sum := sealed(body)[len(body):]
		for k := range 4 {
			for bit := range 8 {
				s := sum[:k] + by(sum[k]^1<<bit) + sum[k+1:]
				wantNone(t, body+s, api.ErrSum, len(body))
			}
		}
		for _, s := range []string{"\x00\x00\x00\x00", "\xff\xff\xff\xff", by(sum[3], sum[2], sum[1], sum[0]), sealed(body + "\x00")[len(body)+1:], sealed(body[4:])[len(body)-4:], sealed(body[1:])[len(body)-1:]} {
			if s != sum {
				wantNone(t, body+s, api.ErrSum, len(body))
			}
		}
		// It is the sum of the four bytes at the beginning, too, and not of its own.
		wantUnpack(t, body+sum, plain(x.i))
	}
	// A sum that is the same but modulo 65521.
	body := plainBytes(1, "\x1d")
	a := pack.Sum(body)
	for _, n := range []int{a + 65521, a + 65521<<16, a + 65521 + 65521<<16, a - 65521, a - 65521<<16} {
		if n&(1<<32-1) != a {
			wantNone(t, body+by(byte(n), byte(n>>8), byte(n>>16), byte(n>>24)), api.ErrSum, len(body))
		}
	}
}

func TestP82DeepTerms(t *testing.T) {
	for _, kinds := range []string{"\x08", "\x09", "\x08\x09"} {
		for _, ahead := range []string{"\x01", "\x1b\x00\x01\x03", "\x1b\x00\x01\x05\x02\x01\x03", "\x21\x00\x01\x01\x06\x00\x01\x03"} {
			body := plainBytes(1, ahead)
			for within := range 64 {
				s, whole := nest(kinds, within)
				if ahead == "\x01" {
					wantModule(t, plain(push(whole(null()))), sealed(body+s+"\x01"))
				}
				wantWrong(t, body+s, len(body)+max(0, 2*within-1))
				wantWrong(t, body+s+"\x0a", len(body)+2*within)
			}
			for _, within := range []int{64, 65, 66, 100, 1000, 60000} {
				s, _ := nest(kinds, within)
				for _, inner := range []string{"\x01", "\x00", "\x0a", "\x08\x00", "\x80\x00", "\x01\x01\x01\x01\x01\x01"} {
					wantWrong(t, body+s+inner, len(body)+128)
					wantWrong(t, sealed(body+s+inner), len(body)+128)
				}
			}
			s, _ := nest(kinds, 64)
			wantWrong(t, body+s, len(body)+127)
		}
	}
}

// nestPattern are the bytes of so many patterns in one another, up to the innermost, and behind that; and the place of the first one that stands within 64 others.
func nestPattern(way, within int) (ahead, behind string, deep int) {
	var b strings.Builder
	pieces := [4]string{"\x05\x01", "\x06\x01", "\x06\x00\x01", "\x06\x01\x01\x01"}
	for k := range within {
		piece := (way + k*(way/4)) % 4
		if k == 63 {
			deep = b.Len() + min(len(pieces[piece]), 3-piece/3)
		}
		b.WriteString(pieces[piece])
		if piece == 1 {
			behind += "\x00"
		}
	}
	return b.String(), behind, deep
}

func TestP82DeepPatterns(t *testing.T) {
	for way := range 12 {
		for _, arms := range []string{"\x1b\x00\x01", "\x21\x00\x01\x02\x01\x00"} {
			body := plainBytes(1, arms)
			for _, within := range []int{0, 1, 2, 62, 63} {
				ahead, behind, _ := nestPattern(way, within)
				s := sealed(body + ahead + "\x01" + behind + "\x00")
				m, e, _ := pack.Unpack(s)
				wantPack(t, m, s, e)
				// A PatTerm's term stands within none of them.
				for _, deep := range []int{0, 1, 62, 63} {
					inner, _ := nest("\x09", deep)
					e := api.ErrCode
					if deep == 0 {
						e = api.OK
					}
					if f := held(t, sealed(body+ahead+"\x03"+inner+"\x01"+behind+"\x00")); f != e {
						t.Errorf("a term within %d in a pattern within %d: %d", deep, within, f)
					}
				}
				inner, _ := nest("\x08", 64)
				wantWrong(t, sealed(body+ahead+"\x03"+inner+"\x01"+behind+"\x00"), len(body+ahead)+1+128)
			}
			for _, within := range []int{64, 65, 66, 100, 1000} {
				ahead, behind, deep := nestPattern(way, within)
				for _, inner := range []string{"\x01", "\x00", "\x07", "\x03\x01", "\x80\x00", "\x01\x01\x01\x01\x01"} {
					wantWrong(t, body+ahead+inner, len(body)+deep)
					wantWrong(t, sealed(body+ahead+inner+behind+"\x00"), len(body)+deep)
				}
			}
		}
	}
}

// Of two that are wrong the first one is told; what can not be read is told ahead of the sum, that ahead of what layer 6 refuses, and bytes that are too many ahead of all.
func TestP82WhichIsToldFirst(t *testing.T) {
	body := plainBytes(3, "")
	wrongs := []string{"\x00", "\x2f", "\x80\x00", "\x01\x00", "\x01\x0a", "\x01\x04" + num(1<<30+1), "\x01\x05\xff\x7f", "\x01\x08\xff\x7f", "\x1b\x00\xff\x7f", "\x1b\x00\x01\x00", "\x1b\x00\x01\x07", "\x1b\x00\x01\x06\x00\x02", "\x03\x80\x00"}
	for _, a := range wrongs {
		place := len(body) + 1
		for k, deep := range []int{0, 0, 0, 1, 1, 2, 2, 2, 2, 3, 3, 5, 1} {
			if wrongs[k] == a {
				place += deep
			}
		}
		for _, b := range wrongs {
			wantWrong(t, body+"\x1d"+a+b+"\x00\x00\x00\x00", place)
			wantWrong(t, sealed(body+"\x1d"+a+b), place)
			wantWrong(t, "CRM2"+body[4:]+a+b, 0)
		}
		// What may not be, ahead of it, is told only if all can be read.
		wantWrong(t, body+"\x01\x07\x00"+a+"\x00\x00\x00\x00", place+2)
	}
	wantNone(t, plainBytes(1, "\x01\x07\x00")+"\x00\x00\x00\x00", api.ErrSum, len(plainBytes(1, "\x01\x07\x00")))
	wantNone(t, sealed(plainBytes(1, "\x01\x07\x00")), api.ErrCode, 0)
	wantNone(t, sealed(plainBytes(2, "\x19\x09\x01\x07\x00")), api.ErrJump, 0)
	wantNone(t, sealed("CRM1\x01M\x01\x01f\x00\x00\x01\x01\x07\x00"), api.ErrModule, 0)
	wantNone(t, sealed("CRM1\x00\x00"), api.ErrModule, 0)
	wantNone(t, sealed("CRM1\x01m\x00"), api.ErrModule, 0)
	wantNone(t, sealed("CRM1\x01m\x01\x00\x00\x00\x00"), api.ErrModule, 0)
	wantNone(t, strings.Repeat("\x00", api.MaxText+1), api.ErrLong, 0)
}
