package ring_test

import (
	"runtime"
	"slices"
	"testing"
	"weak"

	"carousel/api"
	"carousel/ring"
)

// ringOf is a ring with that room that holds these things.
func ringOf(t *testing.T, room int, things ...int) *ring.Ring[int] {
	t.Helper()
	r, e := ring.New[int](room)
	if e != api.OK || r == nil {
		t.Fatalf("New(%d): %v, %v", room, r, e)
	}
	for _, x := range things {
		if e := r.Push(x); e != api.OK {
			t.Fatalf("Push(%d) into room %d: %v", x, room, e)
		}
	}
	return r
}

// turnedRing holds these things, too, but the first ones stand at the end of its slots and the others at their beginning.
func turnedRing(t *testing.T, room, turn int, things ...int) *ring.Ring[int] {
	t.Helper()
	r := ringOf(t, room)
	for range room {
		want(t, "Push", r.Push(-7), api.OK)
	}
	for range turn {
		if _, e := r.Pop(); e != api.OK {
			t.Fatal("Pop:", e)
		}
		want(t, "Push", r.Push(-7), api.OK)
	}
	if _, e := r.Cut(room); e != api.OK {
		t.Fatal("Cut:", e)
	}
	want(t, "Join", r.Join(things), api.OK)
	return r
}

func want(t *testing.T, what string, got, want api.Errno) {
	t.Helper()
	if got != want {
		t.Errorf("%s: %d, not %d", what, got, want)
	}
}

// holds tells whether a ring has just these things, by all that tells of them.
func holds(t *testing.T, r *ring.Ring[int], room int, things ...int) {
	t.Helper()
	if l := r.Items(); !slices.Equal(l, things) {
		t.Errorf("Items: %v, not %v", l, things)
	}
	if r.Len() != len(things) || r.Room() != room-len(things) {
		t.Errorf("Len %d, Room %d, with %d of room %d", r.Len(), r.Room(), len(things), room)
	}
	for i, x := range things {
		if y, e := r.At(i); y != x || e != api.OK {
			t.Errorf("At(%d): %d, %v, not %d", i, y, e, x)
		}
	}
}

// none tells whether a call that gives one thing gave nothing, and that error.
func none(t *testing.T, what string, x int, got, e api.Errno) {
	t.Helper()
	if x != 0 || got != e {
		t.Errorf("%s: %d, %d, not 0, %d", what, x, got, e)
	}
}

// upTo are the numbers 1 to n.
func upTo(n int) []int {
	l := make([]int, n)
	for i := range l {
		l[i] = i + 1
	}
	return l
}

// scribble writes over a list, and over the room behind its end.
func scribble(l []int) {
	l = l[:cap(l)]
	for i := range l {
		l[i] = -99
	}
}

const (
	least = -1 << 63
	most  = 1<<63 - 1
)

func TestRi1New(t *testing.T) {
	for _, room := range []int{1, 2, 3, api.MaxRing - 1, api.MaxRing} {
		r, e := ring.New[int](room)
		if r == nil || e != api.OK {
			t.Fatalf("New(%d): %v", room, e)
		}
		holds(t, r, room)
	}
	for _, room := range []int{0, -1, api.MaxRing + 1, least, most} {
		if r, e := ring.New[string](room); r != nil || e != api.ErrArg {
			t.Errorf("New(%d): %v, %v", room, r, e)
		}
	}
}

func TestRi1Push(t *testing.T) {
	r := ringOf(t, 3, 5, 6)
	holds(t, r, 3, 5, 6)
	want(t, "Push", r.Push(7), api.OK)
	want(t, "Push into a full ring", r.Push(8), api.ErrFull)
	holds(t, r, 3, 5, 6, 7)
	one := ringOf(t, 1, 4)
	want(t, "Push into a full ring of room 1", one.Push(5), api.ErrFull)
	holds(t, one, 1, 4)
}

func TestRi1Pop(t *testing.T) {
	r := ringOf(t, 3)
	x, e := r.Pop()
	none(t, "Pop of an empty ring", x, e, api.ErrNone)
	want(t, "Join", r.Join([]int{5, 6, 7}), api.OK)
	for i := range 10 {
		if x, e := r.Pop(); x != 5+i || e != api.OK {
			t.Fatalf("Pop %d: %d, %v", i, x, e)
		}
		want(t, "Push", r.Push(8+i), api.OK)
		holds(t, r, 3, 6+i, 7+i, 8+i)
	}
	for range 3 {
		r.Pop()
	}
	x, e = r.Pop()
	none(t, "Pop of an emptied ring", x, e, api.ErrNone)
	holds(t, r, 3)
}

func TestRi1Full(t *testing.T) {
	r := ringOf(t, api.MaxRing, upTo(api.MaxRing)...)
	want(t, "Push into the widest ring", r.Push(1), api.ErrFull)
	holds(t, r, api.MaxRing, upTo(api.MaxRing)...)
	for i := range api.MaxRing {
		if x, e := r.Pop(); x != i+1 || e != api.OK {
			t.Fatalf("Pop %d: %d, %v", i, x, e)
		}
	}
	holds(t, r, api.MaxRing)
}

func TestRi1At(t *testing.T) {
	for turn := range 5 {
		r := turnedRing(t, 4, turn, 5, 6, 7)
		for i, w := range []int{5, 6, 7} {
			if x, e := r.At(i); x != w || e != api.OK {
				t.Errorf("At(%d): %d, %v", i, x, e)
			}
		}
		for _, i := range []int{-1, 3, 4, least, most} {
			x, e := r.At(i)
			none(t, "At of no place", x, e, api.ErrNone)
		}
		holds(t, r, 4, 5, 6, 7)
	}
	x, e := ringOf(t, 4).At(0)
	none(t, "At(0) of an empty ring", x, e, api.ErrNone)
}

func TestRi1Take(t *testing.T) {
	for room := 1; room <= 6; room++ {
		for turn := range room {
			for n := 1; n <= room; n++ {
				for i := range n {
					r := turnedRing(t, room, turn, upTo(n)...)
					if x, e := r.Take(i); x != i+1 || e != api.OK {
						t.Fatalf("Take(%d) of %d: %d, %v", i, n, x, e)
					}
					left := slices.Delete(upTo(n), i, i+1)
					holds(t, r, room, left...)
					want(t, "Push behind Take", r.Push(9), api.OK)
					holds(t, r, room, append(left, 9)...)
				}
			}
		}
	}
}

func TestRi1TakeNothing(t *testing.T) {
	r := ringOf(t, 4, 5, 6, 7)
	for _, i := range []int{-1, 3, 4, least, most} {
		x, e := r.Take(i)
		none(t, "Take of no place", x, e, api.ErrNone)
	}
	holds(t, r, 4, 5, 6, 7)
	x, e := ringOf(t, 4).Take(0)
	none(t, "Take(0) of an empty ring", x, e, api.ErrNone)
}

func TestRi1Items(t *testing.T) {
	if l := ringOf(t, 2).Items(); len(l) != 0 {
		t.Error(l)
	}
	for turn := range 5 {
		holds(t, turnedRing(t, 4, turn, 5, 6, 7), 4, 5, 6, 7)
		holds(t, turnedRing(t, 4, turn, 5, 6, 7, 8), 4, 5, 6, 7, 8)
	}
}

func TestRi2Cut(t *testing.T) {
	for turn := range 5 {
		for n := range 5 {
			r := turnedRing(t, 5, turn, 1, 2, 3, 4)
			l, e := r.Cut(n)
			if e != api.OK || !slices.Equal(l, upTo(4)[4-n:]) {
				t.Errorf("Cut(%d): %v, %v", n, l, e)
			}
			holds(t, r, 5, upTo(4-n)...)
			want(t, "Push behind Cut", r.Push(9), api.OK)
			holds(t, r, 5, append(upTo(4-n), 9)...)
		}
	}
	if l, e := ringOf(t, 2).Cut(0); len(l) != 0 || e != api.OK {
		t.Error(l, e)
	}
}

func TestRi2CutRefused(t *testing.T) {
	r := ringOf(t, 5, 1, 2, 3, 4)
	for n, w := range map[int]api.Errno{-1: api.ErrArg, least: api.ErrArg, 5: api.ErrNone, 6: api.ErrNone, most: api.ErrNone} {
		if l, e := r.Cut(n); len(l) != 0 || e != w {
			t.Errorf("Cut(%d): %v, %v", n, l, e)
		}
		holds(t, r, 5, 1, 2, 3, 4)
	}
	if l, e := ringOf(t, 5).Cut(1); len(l) != 0 || e != api.ErrNone {
		t.Error(l, e)
	}
	if l, e := ringOf(t, 5).Cut(-1); len(l) != 0 || e != api.ErrArg {
		t.Error(l, e)
	}
}

func TestRi2Join(t *testing.T) {
	for turn := range 5 {
		for n := range 4 {
			r := turnedRing(t, 5, turn, 1, 2)
			want(t, "Join", r.Join([]int{7, 8, 9}[:n]), api.OK)
			holds(t, r, 5, append([]int{1, 2}, []int{7, 8, 9}[:n]...)...)
		}
		r := turnedRing(t, 5, turn, 1, 2)
		want(t, "Join of one too many", r.Join([]int{6, 7, 8, 9}), api.ErrFull)
		holds(t, r, 5, 1, 2)
	}
}

func TestRi2JoinFull(t *testing.T) {
	full := ringOf(t, 2, 1, 2)
	want(t, "Join of none", full.Join(nil), api.OK)
	want(t, "Join of none", full.Join([]int{}), api.OK)
	want(t, "Join of one", full.Join([]int{3}), api.ErrFull)
	holds(t, full, 2, 1, 2)
	wide := ringOf(t, api.MaxRing, 0)
	want(t, "Join of one too many", wide.Join(upTo(api.MaxRing)), api.ErrFull)
	holds(t, wide, api.MaxRing, 0)
	want(t, "Join of as many as there is room for", wide.Join(upTo(api.MaxRing-1)), api.OK)
	holds(t, wide, api.MaxRing, append([]int{0}, upTo(api.MaxRing-1)...)...)
}

func TestRi3Windows(t *testing.T) {
	for n := range 12 {
		for room := 1; room <= 13; room++ {
			parts, e := ring.Windows(upTo(n), room)
			if e != api.OK || len(parts) != (n+room-1)/room {
				t.Fatalf("Windows of %d by %d: %v, %v", n, room, parts, e)
			}
			for i, p := range parts {
				if len(p) != min(room, n-i*room) || cap(p) != len(p) {
					t.Errorf("Windows of %d by %d: part %d is %v, room %d", n, room, i, p, cap(p))
				}
			}
			if l := slices.Concat(parts...); !slices.Equal(l, upTo(n)) {
				t.Errorf("Windows of %d by %d are %v", n, room, l)
			}
		}
	}
}

func TestRi3WindowsEdges(t *testing.T) {
	for _, l := range [][]int{nil, {}} {
		for _, room := range []int{1, 9, api.MaxRing} {
			if p, e := ring.Windows(l, room); len(p) != 0 || e != api.OK {
				t.Error(room, p, e)
			}
		}
	}
	for _, l := range [][]int{nil, upTo(5)} {
		for _, room := range []int{0, -1, api.MaxRing + 1, least, most} {
			if p, e := ring.Windows(l, room); len(p) != 0 || e != api.ErrArg {
				t.Error(room, p, e)
			}
		}
	}
	p, e := ring.Windows(upTo(api.MaxRing+1), api.MaxRing)
	if e != api.OK || len(p) != 2 || len(p[0]) != api.MaxRing || !slices.Equal(p[1], []int{api.MaxRing + 1}) {
		t.Error(len(p), e)
	}
}

func TestRi4InOrder(t *testing.T) {
	r := ringOf(t, 7)
	in, out := 0, 0
	for round := range 100 {
		for range round % 8 {
			if r.Push(in) == api.OK {
				in++
			}
		}
		for range (round * 3) % 8 {
			if x, e := r.Pop(); e == api.OK {
				if x != out {
					t.Fatalf("round %d: %d came out, not %d", round, x, out)
				}
				out++
			}
		}
	}
	if in == 0 || r.Len() != in-out {
		t.Errorf("%d in, %d out, %d left", in, out, r.Len())
	}
}

func TestRi4CutAndJoin(t *testing.T) {
	for turn := range 6 {
		for n := range 6 {
			r := turnedRing(t, 5, turn, upTo(5)...)
			l, e := r.Cut(n)
			want(t, "Cut", e, api.OK)
			want(t, "Join", r.Join(l), api.OK)
			holds(t, r, 5, upTo(5)...)
		}
	}
}

// A plain list says what each call is to tell, whatever calls came ahead of it.
func TestRi4LikeAList(t *testing.T) {
	seed := uint32(1)
	next := func(n int) int {
		seed = seed*1664525 + 1013904223
		return int(seed>>8) % n
	}
	for room := 1; room <= 9; room++ {
		r := ringOf(t, room)
		var l []int
		for step := range 2000 {
			l = playStep(t, r, l, room, step, next)
			if t.Failed() {
				t.Fatalf("room %d, step %d", room, step)
			}
			holds(t, r, room, l...)
		}
	}
}

// playStep plays one call on a ring and on the list l: what l is then.
func playStep(t *testing.T, r *ring.Ring[int], l []int, room, step int, next func(int) int) []int {
	t.Helper()
	switch next(4) {
	case 0:
		if len(l) == room {
			want(t, "Push", r.Push(step), api.ErrFull)
			return l
		}
		want(t, "Push", r.Push(step), api.OK)
		return append(l, step)
	case 1:
		i := next(room+2) - 1
		x, e := r.Take(i)
		if i < 0 || i >= len(l) {
			none(t, "Take", x, e, api.ErrNone)
			return l
		}
		if x != l[i] || e != api.OK {
			t.Errorf("Take(%d): %d, %v", i, x, e)
		}
		return slices.Delete(l, i, i+1)
	case 2:
		n := next(room + 2)
		cut, e := r.Cut(n)
		if n > len(l) {
			want(t, "Cut", e, api.ErrNone)
			return l
		}
		if !slices.Equal(cut, l[len(l)-n:]) || e != api.OK {
			t.Errorf("Cut(%d): %v, %v", n, cut, e)
		}
		return l[:len(l)-n]
	}
	more := upTo(next(room + 2))
	if len(l)+len(more) > room {
		want(t, "Join", r.Join(more), api.ErrFull)
		return l
	}
	want(t, "Join", r.Join(more), api.OK)
	return append(l, more...)
}

func TestR1NoRing(t *testing.T) {
	good := ringOf(t, 3, 1, 2)
	byHand := *good
	for name, r := range map[string]*ring.Ring[int]{"nil": nil, "empty": {}, "copied by hand": &byHand} {
		want(t, name+" Push", r.Push(1), api.ErrArg)
		x, e := r.Pop()
		none(t, name+" Pop", x, e, api.ErrArg)
		for _, i := range []int{-1, 0, 1} {
			x, e = r.At(i)
			none(t, name+" At", x, e, api.ErrArg)
			x, e = r.Take(i)
			none(t, name+" Take", x, e, api.ErrArg)
			if l, e := r.Cut(i); len(l) != 0 || e != api.ErrArg {
				t.Error(name, "Cut", l, e)
			}
		}
		want(t, name+" Join", r.Join([]int{1}), api.ErrArg)
		want(t, name+" Join of none", r.Join(nil), api.ErrArg)
		if r.Len() != 0 || r.Room() != 0 || len(r.Items()) != 0 || r.Copy() != nil {
			t.Error(name, r.Len(), r.Room(), r.Items(), r.Copy())
		}
	}
	holds(t, good, 3, 1, 2)
}

func TestR3RingsKeepTheirOwn(t *testing.T) {
	given := upTo(8)
	r := ringOf(t, 6, 5)
	want(t, "Join", r.Join(given[2:5]), api.OK)
	if !slices.Equal(given, upTo(8)) {
		t.Error("Join changed what was handed in:", given)
	}
	scribble(given)
	holds(t, r, 6, 5, 3, 4, 5)
	scribble(r.Items())
	holds(t, r, 6, 5, 3, 4, 5)
	_ = append(r.Items()[:1], -99, -99, -99, -99)
	holds(t, r, 6, 5, 3, 4, 5)
	cut, e := r.Cut(2)
	want(t, "Cut", e, api.OK)
	scribble(cut)
	want(t, "Push", r.Push(9), api.OK)
	holds(t, r, 6, 5, 3, 9)
}

func TestR3JoinKeepsNoList(t *testing.T) {
	for n := range 5 {
		given := upTo(8)
		r := ringOf(t, 6)
		want(t, "Join", r.Join(given[:n]), api.OK)
		want(t, "Push", r.Push(9), api.OK)
		if !slices.Equal(given, upTo(8)) {
			t.Error("Join keeps what was handed in:", given)
		}
		scribble(given)
		holds(t, r, 6, append(upTo(n), 9)...)
	}
}

// What has gone out is kept no more: a ring that did would hold on to it for as long as it lives.
func TestR3WhatWentOutIsLetGo(t *testing.T) {
	goOut := map[string]func(r *ring.Ring[*[64]byte]){
		"Pop":  func(r *ring.Ring[*[64]byte]) { r.Pop() },
		"Take": func(r *ring.Ring[*[64]byte]) { r.Take(2) },
		"Cut":  func(r *ring.Ring[*[64]byte]) { r.Cut(1) },
	}
	for name, out := range goOut {
		r, _ := ring.New[*[64]byte](4)
		var seen []weak.Pointer[[64]byte]
		for range 4 {
			x := new([64]byte)
			seen = append(seen, weak.Make(x))
			r.Push(x)
		}
		out(r)
		runtime.GC()
		left := 0
		for _, x := range seen {
			if x.Value() != nil {
				left++
			}
		}
		if left != 3 {
			t.Errorf("%s: %d of 4 are kept, not 3", name, left)
		}
		runtime.KeepAlive(r)
	}
}

func TestR3AnswersKeepTheirOwn(t *testing.T) {
	r := ringOf(t, 4, 1, 2, 3, 4)
	items := r.Items()
	cut, _ := r.Cut(2)
	want(t, "Join", r.Join([]int{7, 8}), api.OK)
	r.Pop()
	want(t, "Push", r.Push(9), api.OK)
	if !slices.Equal(items, upTo(4)) || !slices.Equal(cut, []int{3, 4}) {
		t.Error(items, cut)
	}
	scribble(items)
	if !slices.Equal(cut, []int{3, 4}) {
		t.Error(cut)
	}
}

func TestR3WindowsKeepTheirOwn(t *testing.T) {
	given := upTo(9)
	parts, e := ring.Windows(given[:5], 2)
	want(t, "Windows", e, api.OK)
	if !slices.Equal(given, upTo(9)) {
		t.Error("Windows changed what was handed in:", given)
	}
	scribble(given)
	_ = append(parts[0], -99)
	scribble(parts[1])
	if !slices.Equal(parts[0], []int{1, 2}) || !slices.Equal(parts[2], []int{5}) {
		t.Error(parts)
	}
	given = upTo(9)
	parts, _ = ring.Windows(given[:4], 4)
	scribble(parts[0])
	if !slices.Equal(given, upTo(9)) {
		t.Error("a window is what was handed in:", given)
	}
}

func TestR4Copy(t *testing.T) {
	for turn := range 5 {
		r := turnedRing(t, 4, turn, 1, 2, 3)
		c := r.Copy()
		holds(t, c, 4, 1, 2, 3)
		r.Take(1)
		want(t, "Push", r.Push(8), api.OK)
		holds(t, c, 4, 1, 2, 3)
		c.Pop()
		want(t, "Push", c.Push(9), api.OK)
		holds(t, c, 4, 2, 3, 9)
		holds(t, r, 4, 1, 3, 8)
		holds(t, c.Copy(), 4, 2, 3, 9)
	}
	holds(t, ringOf(t, 2).Copy(), 2)
	want(t, "Push into a copy of a full ring", ringOf(t, 1, 5).Copy().Push(6), api.ErrFull)
}

// A ring of other things: words, things without size, and things so wide that room for all of them would be more than there is.
func TestR1AnyThings(t *testing.T) {
	words, _ := ring.New[string](2)
	words.Join([]string{"a", "b"})
	if x, e := words.Pop(); x != "a" || e != api.OK || !slices.Equal(words.Items(), []string{"b"}) {
		t.Error(x, e)
	}
	if x, e := words.At(1); x != "" || e != api.ErrNone {
		t.Error(x, e)
	}
	bare, _ := ring.New[struct{}](2)
	want(t, "Join", bare.Join(make([]struct{}, 2)), api.OK)
	want(t, "Push", bare.Push(struct{}{}), api.ErrFull)
	if p, e := ring.Windows(make([]struct{}, 5), 3); len(p) != 2 || len(p[1]) != 2 || e != api.OK {
		t.Error(p, e)
	}
	wide, e := ring.New[[1 << 24]byte](api.MaxRing)
	want(t, "New", e, api.OK)
	want(t, "Push", wide.Push([1 << 24]byte{7}), api.OK)
	if x, e := wide.Pop(); x[0] != 7 || e != api.OK || wide.Room() != api.MaxRing {
		t.Error(x[0], e)
	}
}
