package pack

import (
	"strings"

	"carousel/api"
)

// reader goes through bytes. Where something can not be read it gives up: then it stands where that begins.
type reader struct {
	s  string
	at int
}

// count gives up as soon as there would be more than 63 bits: no count has more.
func (r *reader) count() (int, bool) {
	n, at := 0, r.at
	for bits := 0; bits < 63 && at < len(r.s); bits += 7 {
		b := r.s[at]
		at++
		n |= int(b&127) << bits
		if b == 0 && bits > 0 {
			goto none
		}
		if b < 128 {
			r.at = at
			return n, true
		}
	}
none:
	return 0, false
}

// fit is a count that fits: it is asked as soon as the reader stands behind it.
func (r *reader) fit(fits func(n int) bool) (int, bool) {
	begin := r.at
	n, ok := r.count()
	if !ok || !fits(n) {
		goto none
	}
	return n, true
none:
	r.at = begin
	return 0, false
}

// oneOf is a Kind or an Op: they are numbered from 1 on.
func (r *reader) oneOf(most int) (int, bool) {
	return r.fit(func(n int) bool { return n >= 1 && n <= most })
}

// length is how many things follow, none of which has less than a byte.
func (r *reader) length() (int, bool) { return r.fit(r.has) }

// has tells whether so many bytes are left.
func (r *reader) has(n int) bool { return n <= len(r.s)-r.at }

func (r *reader) number() (int, bool) {
	n, ok := r.count()
	return signed(n), ok
}

// part is a complex number's.
func (r *reader) part() (float64, bool) {
	n, ok := r.fit(func(n int) bool { return signed(n) >= -api.MaxPart && signed(n) <= api.MaxPart })
	return float64(signed(n)), ok
}

// signed is the number that a count stands for.
func signed(n int) int {
	if n%2 == 0 {
		return n / 2
	}
	return -(n / 2) - 1
}

// name is a copy: a piece of what was handed in is not to be kept.
func (r *reader) name() (string, bool) {
	n, ok := r.length()
	begin := r.at
	r.at += n
	return strings.Clone(r.s[begin:r.at]), ok
}

// some are as many as the count ahead of them says. Room is made only as they come: lists in one another may each promise as many as there are bytes.
func some[T any](r *reader, one func() (T, bool)) ([]T, bool) {
	var l []T
	n, ok := r.length()
	if !ok {
		goto none
	}
	for range n {
		x, ok := one()
		if !ok {
			goto none
		}
		l = append(l, x)
	}
	return l, true
none:
	return nil, false
}
