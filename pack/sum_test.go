package pack_test

import (
	"hash/adler32"
	"strings"
	"testing"

	"carousel/pack"
)

func wantSum(t *testing.T, s string, want int) {
	t.Helper()
	if n := pack.Sum(s); n != want {
		t.Errorf("Sum(%s): %d, not %d", show(s), n, want)
	}
}

func TestP81SumOfKnownTexts(t *testing.T) {
	wantSum(t, "", 1)
	wantSum(t, "a", 6422626)
	wantSum(t, "Wikipedia", 300286872)
	wantSum(t, "\x00", 1<<16+1)
	wantSum(t, "\x00\x00", 2<<16+1)
	wantSum(t, "\xff", 256<<16+256)
	wantSum(t, "ab", 294<<16+196)
}

// held against sums that are never cut down but at the end: of few bytes.
func TestP81SumByItsWords(t *testing.T) {
	for n := range 200 {
		s := ""
		a, b := 1, 0
		for k := range n {
			x := byte(k*k*7 + n)
			s += string([]byte{x})
			a += int(x)
			b += a
		}
		wantSum(t, s, b%65521*65536+a%65521)
	}
}

func TestP86SumOfAllBytesAndPairs(t *testing.T) {
	for a := range 256 {
		wantBounded(t, by(byte(a)))
		for b := range 256 {
			wantBounded(t, by(byte(a), byte(b)))
		}
	}
}

// wantBounded asks for a sum from 0 on and below 2^32, that is the library's.
func wantBounded(t *testing.T, s string) {
	t.Helper()
	n := pack.Sum(s)
	if n < 0 || n >= 1<<32 || n%65536 >= 65521 || n/65536 >= 65521 {
		t.Errorf("Sum(%s): %d", show(s), n)
	}
	wantSum(t, s, int(adler32.Checksum([]byte(s))))
}

// So many bytes 255 that the sums go round several times, a by and by, b again and again; also beyond what a text may have.
func TestP86SumGoesRound(t *testing.T) {
	for _, b := range []string{"\xff", "\x80", "\x01", "\x00", "\xfe\xff"} {
		s := strings.Repeat(b, 400000/len(b))
		for _, n := range []int{1, 2, 21, 22, 23, 255, 256, 257, 258, 514, 1000, 5551, 5552, 5553, 65520, 65521, 65522, 100000, 1 << 18, 1<<18 + 1, 400000} {
			wantBounded(t, s[:n])
		}
	}
	for n := 250; n < 265; n++ {
		wantBounded(t, strings.Repeat("\xff", n))
	}
	// a is 65520 and 0 and 1 again.
	for _, x := range []byte{239, 240, 241} {
		wantBounded(t, strings.Repeat("\xff", 256)+by(x))
	}
}

func TestP86SumOfDrawnBytes(t *testing.T) {
	x := numbers(5)
	for range 500 {
		b := make([]byte, x.below(3000))
		for k := range b {
			b[k] = byte(x.below(256))
		}
		wantBounded(t, string(b))
	}
}
