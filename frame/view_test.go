package frame_test

import (
	"slices"
	"testing"

	"carousel/api"
	"carousel/frame"
)

func TestFr4LoadOfViewsThatMayBe(t *testing.T) {
	for _, v := range views() {
		s := load(t, v)
		for range 3 {
			holds(t, s, v)
			s = load(t, s.View())
		}
	}
	holds(t, frame.New(), api.View{})
	holds(t, load(t, api.View{Frames: []api.Frame{}, Terms: []api.Term{}}), api.View{})
}

// refused asks that a view may not be.
func refused(t *testing.T, what string, v api.View) {
	t.Helper()
	if s, e := frame.Load(v); s != nil || e != api.ErrArg {
		t.Errorf("Load, %s: %v, %d", what, s, e)
	}
}

// either asks whether a view may be.
func either(t *testing.T, what string, v api.View, is bool) {
	t.Helper()
	if is {
		holds(t, load(t, v), v)
	} else {
		refused(t, what, v)
	}
}

func TestFr4HowManyThereMayBe(t *testing.T) {
	for _, n := range []int{0, 1, 63, 64, 65, 66, 200} {
		frames := slices.Repeat([]api.Frame{call(1, 2, 0, in(3))}, n)
		either(t, "frames", view(row(2), frames...), n <= 64)
	}
	for _, n := range []int{0, 1, 255, 256, 257, 1000} {
		either(t, "terms", view(row(n)), n <= 256)
		either(t, "terms with a frame", view(row(n), call(0, 0, 0)), n <= 256)
	}
	for _, n := range []int{0, 1, 31, 32, 33, 34, 256} {
		either(t, "locals", view(row(3), call(1, 2, 0, row(n)...), call(3, 4, 0)), n <= 32)
		either(t, "locals of the last one", view(row(3), call(1, 2, 0), call(3, 4, 0, row(n)...)), n <= 32)
	}
}

func TestFr4NumbersOfAFrame(t *testing.T) {
	for _, n := range []int{least, -2, -1, 0, 1, 62, 63, 64, 65, most} {
		is := n >= 0 && n <= 63
		either(t, "Func", view(nil, call(n, 0, 0)), is)
		either(t, "Func of the first one", view(nil, call(n, 0, 0), call(0, 0, 0)), is)
		either(t, "Func of the last one", view(nil, call(0, 0, 0), call(n, 0, 0)), is)
	}
	for _, n := range []int{least, -2, -1, 0, 1, 1022, 1023, 1024, 1025, most} {
		is := n >= 0 && n <= 1023
		either(t, "At", view(nil, call(0, n, 0)), is)
		either(t, "At of the first one", view(nil, call(0, n, 0), call(0, 0, 0)), is)
		either(t, "At of the last one", view(nil, call(0, 0, 0), call(0, n, 0)), is)
	}
}

func TestFr4Bases(t *testing.T) {
	for terms := range 4 {
		for a := -1; a <= 5; a++ {
			either(t, "Base", view(row(terms), call(0, 0, a)), a >= 0 && a <= terms)
			for b := -1; b <= 5; b++ {
				for c := -1; c <= 5; c++ {
					is := a >= 0 && a <= b && b <= c && c <= terms
					either(t, "Base of three", view(row(terms), call(0, 0, a), call(1, 1, b), call(2, 2, c)), is)
				}
			}
		}
	}
	for _, base := range []int{least, -1, 257, most} {
		refused(t, "Base", view(row(256), call(0, 0, base)))
	}
	either(t, "Base", view(row(256), call(0, 0, 255), call(0, 0, 256)), true)
}

func TestFr4TermsThatMayNotBe(t *testing.T) {
	for _, w := range wrongs() {
		for _, place := range []int{0, 1, 2} {
			terms := row(3)
			terms[place] = w.t
			refused(t, "a term", view(terms))
			refused(t, "a term with a frame", view(terms, call(0, 0, 3)))
			refused(t, "a local", view(nil, call(0, 0, 0, terms...)))
			refused(t, "a local of the first one", view(nil, call(0, 0, 0, terms...), call(0, 0, 0)))
			refused(t, "a local of the last one", view(nil, call(0, 0, 0), call(0, 0, 0, terms...)))
		}
	}
	terms := row(256)
	terms[255] = api.Term{}
	refused(t, "the last term", view(terms))
	refused(t, "the last local", view(nil, call(0, 0, 0, append(row(31), api.Term{})...)))
}
