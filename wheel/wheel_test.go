package wheel_test

import (
	"slices"
	"testing"

	"carousel/api"
	"carousel/wheel"
)

const (
	least = -1 << 63
	most  = 1<<63 - 1
)

// everyHas are all the answers to which classes wait.
func everyHas() [][api.Classes]bool {
	var l [][api.Classes]bool
	for n := range 1 << api.Classes {
		l = append(l, [api.Classes]bool{n&1 != 0, n&2 != 0, n&4 != 0})
	}
	return l
}

// lists are all lists of that many of the numbers from, from+1 .. to.
func lists(n, from, to int) [][]int {
	l := [][]int{nil}
	for range n {
		var longer [][]int
		for _, head := range l {
			for x := from; x <= to; x++ {
				longer = append(longer, append(slices.Clone(head), x))
			}
		}
		l = longer
	}
	return l
}

// isWheel says by the words of the chapter whether slots are a wheel.
func isWheel(slots []int) bool {
	for _, c := range slots {
		if c != api.High && c != api.Normal && c != api.Low {
			return false
		}
	}
	return len(slots) <= 64 && slices.Contains(slots, 0) && slices.Contains(slots, 1) && slices.Contains(slots, 2)
}

// wheels are all wheels of at most 6 slots, and some longer ones.
func wheels() [][]int {
	l := [][]int{
		{0, 1, 0, 2, 0, 1, 0},
		{2, 2, 2, 2, 1, 0, 0, 0, 0, 0, 0, 0},
		wide(64, 0, 1, 2),
		wide(64, 2, 0, 1),
	}
	for n := 3; n <= 6; n++ {
		for _, slots := range lists(n, 0, 2) {
			if isWheel(slots) {
				l = append(l, slots)
			}
		}
	}
	return l
}

// wide is that many slots, all of the class a, but the last two.
func wide(n, a, b, c int) []int {
	slots := slices.Repeat([]int{a}, n)
	slots[n-2], slots[n-1] = b, c
	return slots
}

// noWheels are slots that are no wheel, but for classes that are none among short ones.
func noWheels() map[string][]int {
	return map[string][]int{
		"nil":                nil,
		"no slots":           {},
		"one slot":           {0},
		"two slots":          {0, 1},
		"no High":            {1, 2, 2, 1},
		"no Normal":          {0, 2, 0},
		"no Low":             {0, 0, 1},
		"65 slots":           wide(65, 0, 1, 2),
		"many slots":         wide(1000, 0, 1, 2),
		"class -1":           {0, 1, 2, -1},
		"class 3":            {0, 1, 2, 3},
		"class 3, the first": {3, 0, 1, 2},
		"the least class":    {0, 1, least, 2},
		"the greatest class": {0, 1, most, 2},
		"64 and a class 3":   append(wide(63, 0, 1, 2), 3),
	}
}

func TestP21Check(t *testing.T) {
	for n := range 6 {
		for _, slots := range lists(n, -1, 3) {
			e := wheel.Check(slots)
			if (e == api.OK) != isWheel(slots) || e != api.OK && e != api.ErrWheel {
				t.Errorf("Check(%v): %d", slots, e)
			}
		}
	}
	for name, slots := range noWheels() {
		if e := wheel.Check(slots); e != api.ErrWheel {
			t.Errorf("Check of %s: %d", name, e)
		}
	}
	for _, slots := range wheels() {
		if e := wheel.Check(slots); e != api.OK {
			t.Errorf("Check(%v): %d", slots, e)
		}
	}
}

func TestP21NextByHand(t *testing.T) {
	all := [api.Classes]bool{true, true, true}
	for _, x := range []struct {
		slots             []int
		hand, class, next int
		has               [api.Classes]bool
	}{
		{[]int{0, 1, 2}, 0, 0, 1, all},
		{[]int{0, 1, 2}, 1, 1, 2, all},
		{[]int{0, 1, 2}, 2, 2, 0, all},
		{[]int{0, 1, 2}, 0, 2, 1, [api.Classes]bool{false, false, true}},
		{[]int{0, 1, 2}, 2, 0, 0, [api.Classes]bool{true, false, false}},
		{[]int{0, 1, 2}, 0, 1, 1, [api.Classes]bool{false, true, true}},
		{[]int{0, 1, 2}, 1, 2, 2, [api.Classes]bool{true, false, true}},
		{[]int{0, 1, 2}, 2, 0, 0, [api.Classes]bool{true, true, false}},
		{[]int{0, 1, 2}, 1, 0, 2, [api.Classes]bool{true, false, false}},
		{[]int{0, 1, 2}, 2, 1, 0, [api.Classes]bool{false, true, false}},
		// What is behind a class is a class, not what stands in the next slot.
		{[]int{0, 2, 1}, 0, 1, 1, [api.Classes]bool{false, true, true}},
		{[]int{2, 1, 0}, 0, 0, 1, [api.Classes]bool{true, true, false}},
		{wide(64, 0, 1, 2), 0, 0, 1, all},
		{wide(64, 0, 1, 2), 63, 2, 0, all},
		{wide(64, 0, 1, 2), 62, 2, 63, [api.Classes]bool{true, false, true}},
	} {
		if c, n, e := wheel.Next(x.slots, x.hand, x.has); c != x.class || n != x.next || e != api.OK {
			t.Errorf("Next(%v, %d, %v): %d, %d, %d, not %d, %d", x.slots, x.hand, x.has, c, n, e, x.class, x.next)
		}
	}
}

// behind is who is asked, one behind the other, at a slot of each class.
func behind(class int) []int {
	return map[int][]int{0: {0, 1, 2}, 1: {1, 2, 0}, 2: {2, 0, 1}}[class]
}

func TestP21NextOfAll(t *testing.T) {
	for _, slots := range wheels() {
		for hand := range slots {
			for _, has := range everyHas() {
				class, next, e := 0, 0, api.ErrNone
				for _, c := range behind(slots[hand]) {
					if has[c] {
						class, next, e = c, hand+1, api.OK
						break
					}
				}
				if next == len(slots) {
					next = 0
				}
				if c, n, f := wheel.Next(slots, hand, has); c != class || n != next || f != e {
					t.Fatalf("Next(%v, %d, %v): %d, %d, %d, not %d, %d, %d", slots, hand, has, c, n, f, class, next, e)
				}
			}
		}
	}
}

func TestP21NextRefused(t *testing.T) {
	refused := func(slots []int, hand int, has [api.Classes]bool, want api.Errno) {
		t.Helper()
		if c, n, e := wheel.Next(slots, hand, has); c != 0 || n != 0 || e != want {
			t.Errorf("Next(%v, %d, %v): %d, %d, %d, not %d", slots, hand, has, c, n, e, want)
		}
	}
	for _, has := range everyHas() {
		for _, slots := range noWheels() {
			for _, hand := range []int{0, 1, 2, -1, len(slots), least, most} {
				refused(slots, hand, has, api.ErrWheel)
			}
		}
		for _, slots := range wheels() {
			for _, hand := range []int{-1, len(slots), len(slots) + 1, least, most} {
				refused(slots, hand, has, api.ErrArg)
			}
		}
	}
	for _, slots := range wheels() {
		for hand := range slots {
			refused(slots, hand, [api.Classes]bool{}, api.ErrNone)
		}
	}
}

// upTo says by the words of the chapter how many turns it takes from a hand to the first slot of a class.
func upTo(slots []int, hand, class int) int {
	turns := 1
	for slots[hand] != class {
		hand++
		if hand == len(slots) {
			hand = 0
		}
		turns++
	}
	return turns
}

func TestP22Gap(t *testing.T) {
	for _, x := range []struct {
		slots []int
		gaps  [api.Classes]int
	}{
		{[]int{0, 1, 2}, [api.Classes]int{3, 3, 3}},
		{[]int{0, 1, 0, 2, 0, 1, 0}, [api.Classes]int{2, 4, 7}},
		{[]int{0, 0, 0, 1, 2}, [api.Classes]int{3, 5, 5}},
		{[]int{2, 0, 0, 0, 1}, [api.Classes]int{3, 5, 5}},
		{[]int{1, 0, 2, 2, 0}, [api.Classes]int{3, 5, 4}},
		{wide(64, 0, 1, 2), [api.Classes]int{3, 64, 64}},
		{wide(64, 2, 1, 0), [api.Classes]int{64, 64, 3}},
	} {
		for class, want := range x.gaps {
			if g, e := wheel.Gap(x.slots, class); g != want || e != api.OK {
				t.Errorf("Gap(%v, %d): %d, %d, not %d", x.slots, class, g, e, want)
			}
		}
	}
	for _, slots := range wheels() {
		for class := range api.Classes {
			want := 0
			for hand := range slots {
				want = max(want, upTo(slots, hand, class))
			}
			if g, e := wheel.Gap(slots, class); g != want || e != api.OK {
				t.Errorf("Gap(%v, %d): %d, %d, not %d", slots, class, g, e, want)
			}
		}
	}
}

func TestP22GapRefused(t *testing.T) {
	for name, slots := range noWheels() {
		for _, class := range []int{0, 1, 2, -1, 3, least, most} {
			if g, e := wheel.Gap(slots, class); g != 0 || e != api.ErrWheel {
				t.Errorf("Gap of %s, %d: %d, %d", name, class, g, e)
			}
		}
	}
	for _, slots := range wheels() {
		for _, class := range []int{-1, 3, least, most} {
			if g, e := wheel.Gap(slots, class); g != 0 || e != api.ErrArg {
				t.Errorf("Gap(%v, %d): %d, %d", slots, class, g, e)
			}
		}
	}
}

func TestP22Served(t *testing.T) {
	for _, slots := range wheels() {
		for hand := range slots {
			var want [api.Classes]int
			at := hand
			for turns := range 3*len(slots) + 2 {
				if s, e := wheel.Served(slots, hand, turns); s != want || e != api.OK {
					t.Fatalf("Served(%v, %d, %d): %v, %d, not %v", slots, hand, turns, s, e, want)
				}
				want[slots[at]]++
				at++
				if at == len(slots) {
					at = 0
				}
			}
		}
	}
}

func TestP22ServedByHand(t *testing.T) {
	usual := []int{0, 1, 0, 2, 0, 1, 0}
	for _, x := range []struct {
		slots       []int
		hand, turns int
		served      [api.Classes]int
	}{
		{[]int{0, 1, 2}, 2, 4, [api.Classes]int{1, 1, 2}},
		{[]int{0, 1, 2}, 0, 0, [api.Classes]int{}},
		{usual, 6, 1, [api.Classes]int{1, 0, 0}},
		{usual, 6, 2, [api.Classes]int{2, 0, 0}},
		{usual, 3, 4, [api.Classes]int{2, 1, 1}},
		{usual, 5, 700, [api.Classes]int{400, 200, 100}},
		{wide(64, 0, 1, 2), 63, 65, [api.Classes]int{62, 1, 2}},
		// 2^63 - 1 is 7 times 1317624576693539401.
		{usual, 3, most, [api.Classes]int{4 * 1317624576693539401, 2 * 1317624576693539401, 1317624576693539401}},
		{[]int{0, 1, 2}, 2, most, [api.Classes]int{most / 3, most / 3, most/3 + 1}},
	} {
		if s, e := wheel.Served(x.slots, x.hand, x.turns); s != x.served || e != api.OK {
			t.Errorf("Served(%v, %d, %d): %v, %d, not %v", x.slots, x.hand, x.turns, s, e, x.served)
		}
	}
}

func TestP22ServedRefused(t *testing.T) {
	refused := func(slots []int, hand, turns int, want api.Errno) {
		t.Helper()
		if s, e := wheel.Served(slots, hand, turns); s != [api.Classes]int{} || e != want {
			t.Errorf("Served(%v, %d, %d): %v, %d, not %d", slots, hand, turns, s, e, want)
		}
	}
	for _, turns := range []int{0, 1, 9, -1, least, most} {
		for _, slots := range noWheels() {
			for _, hand := range []int{0, 1, -1, len(slots), least, most} {
				refused(slots, hand, turns, api.ErrWheel)
			}
		}
		for _, slots := range wheels() {
			for _, hand := range []int{-1, len(slots), len(slots) + 1, least, most} {
				refused(slots, hand, turns, api.ErrArg)
			}
			if turns < 0 {
				refused(slots, 0, turns, api.ErrArg)
				refused(slots, len(slots)-1, turns, api.ErrArg)
			}
		}
	}
}

func TestP23EvenByHand(t *testing.T) {
	for _, x := range []struct {
		weights [api.Classes]int
		slots   []int
	}{
		{[api.Classes]int{1, 1, 1}, []int{0, 1, 2}},
		{[api.Classes]int{2, 1, 1}, []int{0, 1, 2, 0}},
		{[api.Classes]int{1, 2, 1}, []int{1, 0, 2, 1}},
		{[api.Classes]int{1, 1, 2}, []int{2, 0, 1, 2}},
		{[api.Classes]int{2, 2, 1}, []int{0, 1, 2, 0, 1}},
		{[api.Classes]int{1, 2, 3}, []int{2, 1, 0, 2, 1, 2}},
		{[api.Classes]int{4, 2, 1}, []int{0, 1, 0, 2, 0, 1, 0}},
		{[api.Classes]int{5, 1, 1}, []int{0, 0, 1, 0, 2, 0, 0}},
		{[api.Classes]int{2, 2, 2}, []int{0, 1, 2, 0, 1, 2}},
	} {
		if l, e := wheel.Even(x.weights); !slices.Equal(l, x.slots) || e != api.OK {
			t.Errorf("Even(%v): %v, %d, not %v", x.weights, l, e, x.slots)
		}
	}
}

// everyWeights calls f with all weights that are at most 64 together.
func everyWeights(f func(weights [api.Classes]int, all int)) {
	for a := 1; a <= 62; a++ {
		for b := 1; a+b <= 63; b++ {
			for c := 1; a+b+c <= 64; c++ {
				f([api.Classes]int{a, b, c}, a+b+c)
			}
		}
	}
}

// A credit is so many times the class's weight as there have been slots, less all weights for each of the class's own.
func TestP23EvenOfAll(t *testing.T) {
	everyWeights(func(weights [api.Classes]int, all int) {
		l, e := wheel.Even(weights)
		if e != api.OK || len(l) != all {
			t.Fatalf("Even(%v): %v, %d", weights, l, e)
		}
		var stood [api.Classes]int
		for i, class := range l {
			best, credit := -1, least
			for c := range api.Classes {
				if x := (i+1)*weights[c] - all*stood[c]; x > credit {
					best, credit = c, x
				}
			}
			if class != best {
				t.Fatalf("Even(%v): %v, but slot %d is of class %d", weights, l, i, best)
			}
			stood[class]++
		}
	})
}

func TestP23EvenRefused(t *testing.T) {
	for _, weights := range [][api.Classes]int{
		{0, 0, 0}, {0, 1, 1}, {1, 0, 1}, {1, 1, 0}, {-1, 1, 1}, {1, -1, 1}, {1, 1, -1},
		{0, 64, 1}, {64, 0, 1}, {-1, 60, 1}, {60, 60, -60},
		{63, 1, 1}, {1, 63, 1}, {1, 1, 63}, {22, 22, 21}, {64, 1, 1}, {1, 64, 1}, {1, 1, 64}, {65, 1, 1}, {1, 1, 65},
		{most, 1, 1}, {1, most, 1}, {1, 1, most}, {most, most, most}, {most, most, 5}, {5, most, most},
		{least, 1, 1}, {1, least, 1}, {1, 1, least}, {least, least, 3}, {1 << 62, 1 << 62, 3}, {least, most, 3},
	} {
		if l, e := wheel.Even(weights); len(l) != 0 || e != api.ErrArg {
			t.Errorf("Even(%v): %v, %d", weights, l, e)
		}
	}
	for _, weights := range [][api.Classes]int{{62, 1, 1}, {1, 62, 1}, {1, 1, 62}, {21, 21, 22}} {
		if l, e := wheel.Even(weights); len(l) != 64 || e != api.OK {
			t.Errorf("Even(%v): %v, %d", weights, l, e)
		}
	}
}

func TestP23Usual(t *testing.T) {
	if l := wheel.Usual(); !slices.Equal(l, []int{0, 1, 0, 2, 0, 1, 0}) || wheel.Check(l) != api.OK {
		t.Error(l)
	}
}

// served is at which turn a class that waits is served, if the others wait or not as is worst for it.
func served(t *testing.T, slots []int, hand, class int) int {
	t.Helper()
	for turns := 1; turns <= 2*len(slots); turns++ {
		worst, behind := true, 0
		for _, has := range everyHas() {
			has[class] = true
			c, n, e := wheel.Next(slots, hand, has)
			if e != api.OK {
				t.Fatalf("Next(%v, %d, %v): %d", slots, hand, has, e)
			}
			worst = worst && c == class
			behind = n
		}
		if worst {
			return turns
		}
		hand = behind
	}
	t.Fatalf("class %d of %v is never served from hand %d on", class, slots, hand)
	return 0
}

func TestP24EachIsServed(t *testing.T) {
	for _, slots := range wheels() {
		for class := range api.Classes {
			gap, e := wheel.Gap(slots, class)
			if e != api.OK || gap < 1 || gap > len(slots) {
				t.Fatalf("Gap(%v, %d): %d, %d", slots, class, gap, e)
			}
			longest := 0
			for hand := range slots {
				longest = max(longest, served(t, slots, hand, class))
			}
			if longest > gap {
				t.Errorf("class %d of %v waits %d turns, Gap %d", class, slots, longest, gap)
			}
		}
	}
}

func TestP24SomeHandWaitsSoLong(t *testing.T) {
	all := [api.Classes]bool{true, true, true}
	for _, slots := range wheels() {
		for class := range api.Classes {
			longest := 0
			for hand := range slots {
				at, turns := hand, 0
				for c := -1; c != class && turns <= 2*len(slots); turns++ {
					c, at, _ = wheel.Next(slots, at, all)
				}
				longest = max(longest, turns)
			}
			if gap, e := wheel.Gap(slots, class); e != api.OK || gap != longest {
				t.Errorf("Gap(%v, %d): %d, %d, but the longest wait is %d", slots, class, gap, e, longest)
			}
		}
	}
}

func TestP25EvenIsAWheel(t *testing.T) {
	everyWeights(func(weights [api.Classes]int, all int) {
		l, _ := wheel.Even(weights)
		if e := wheel.Check(l); e != api.OK {
			t.Fatalf("Check(%v): %d", l, e)
		}
		var stands [api.Classes]int
		for _, class := range l {
			stands[class]++
		}
		if stands != weights {
			t.Fatalf("Even(%v): %v", weights, l)
		}
		if s, e := wheel.Served(l, 0, all); s != weights || e != api.OK {
			t.Fatalf("Served(%v, 0, %d): %v, %d", l, all, s, e)
		}
	})
}

func TestP25TwiceTheWeights(t *testing.T) {
	everyWeights(func(weights [api.Classes]int, all int) {
		if 2*all > 64 {
			return
		}
		once, _ := wheel.Even(weights)
		twice, e := wheel.Even([api.Classes]int{2 * weights[0], 2 * weights[1], 2 * weights[2]})
		if e != api.OK || !slices.Equal(twice, slices.Concat(once, once)) {
			t.Fatalf("Even of twice %v: %v, %d, not %v twice", weights, twice, e, once)
		}
	})
}

func TestP26ServedGoesOn(t *testing.T) {
	for _, slots := range [][]int{{0, 1, 2}, {2, 0, 0, 1}, {0, 1, 0, 2, 0, 1, 0}, wide(64, 1, 0, 2)} {
		for hand := range slots {
			for _, a := range []int{0, 1, 2, 5, 7, 64, 65, 1000003} {
				for _, b := range []int{0, 1, 3, 8, 63, 129, 1 << 40} {
					first, e := wheel.Served(slots, hand, a)
					then, f := wheel.Served(slots, (hand+a)%len(slots), b)
					both, g := wheel.Served(slots, hand, a+b)
					for c := range api.Classes {
						first[c] += then[c]
					}
					if e != api.OK || f != api.OK || g != api.OK || first != both {
						t.Fatalf("Served(%v, %d, %d and %d): %v, together %v", slots, hand, a, b, first, both)
					}
				}
			}
		}
	}
}

// What Served tells is what Next does, if all wait.
func TestP26ServedIsWhatNextDoes(t *testing.T) {
	all := [api.Classes]bool{true, true, true}
	for _, slots := range wheels() {
		for hand := range slots {
			at := hand
			var done [api.Classes]int
			for turns := 1; turns <= 20; turns++ {
				c, n, e := wheel.Next(slots, at, all)
				if e != api.OK {
					t.Fatalf("Next(%v, %d): %d", slots, at, e)
				}
				done[c]++
				at = n
				if s, e := wheel.Served(slots, hand, turns); s != done || e != api.OK {
					t.Fatalf("Served(%v, %d, %d): %v, %d, not %v", slots, hand, turns, s, e, done)
				}
			}
		}
	}
}

// What lies behind a list's end is no slot; neither it nor the list is written, whatever is answered.
func TestR3SlotsAreOnlyRead(t *testing.T) {
	for _, n := range []int{0, 2, 3, 5, 64, 65} {
		given := slices.Repeat([]int{2, 1, 0}, 30)
		given[n] = 3
		kept := slices.Clone(given)
		slots := given[:n]
		want := api.OK
		if n < 3 || n > 64 {
			want = api.ErrWheel
		}
		if e := wheel.Check(slots); e != want {
			t.Errorf("Check of %d slots: %d", n, e)
		}
		for k := -1; k <= n; k++ {
			for _, has := range everyHas() {
				wheel.Next(slots, k, has)
			}
			wheel.Gap(slots, k)
			wheel.Served(slots, k, 100)
			wheel.Served(slots, 0, k)
		}
		if !slices.Equal(given, kept) {
			t.Fatalf("%d slots were written: %v", n, given)
		}
	}
}

func TestR3WhatIsAnsweredIsNew(t *testing.T) {
	scribble := func(l []int) {
		l = l[:cap(l)]
		for i := range l {
			l[i] = -99
		}
	}
	for range 3 {
		a, b := wheel.Usual(), wheel.Usual()
		scribble(a)
		if !slices.Equal(b, []int{0, 1, 0, 2, 0, 1, 0}) {
			t.Error("two usual wheels share memory:", b)
		}
		scribble(b)
		weights := [api.Classes]int{2, 1, 1}
		a, _ = wheel.Even(weights)
		b, _ = wheel.Even(weights)
		scribble(a)
		if !slices.Equal(b, []int{0, 1, 2, 0}) || weights != [api.Classes]int{2, 1, 1} {
			t.Error("two even wheels share memory:", b, weights)
		}
		scribble(b)
	}
}

// The same calls are answered alike, whatever was called between.
func TestR4CallsKnowNothingOfOneAnother(t *testing.T) {
	slots := []int{1, 0, 2, 0}
	for range 3 {
		if c, n, e := wheel.Next(slots, 3, [api.Classes]bool{false, true, true}); c != 1 || n != 0 || e != api.OK {
			t.Error(c, n, e)
		}
		wheel.Next(slots, 1, [api.Classes]bool{true, true, true})
		if g, e := wheel.Gap(slots, 2); g != 4 || e != api.OK {
			t.Error(g, e)
		}
		if s, e := wheel.Served(slots, 3, 3); s != [api.Classes]int{2, 1, 0} || e != api.OK {
			t.Error(s, e)
		}
		if l, e := wheel.Even([api.Classes]int{1, 2, 1}); !slices.Equal(l, []int{1, 0, 2, 1}) || e != api.OK {
			t.Error(l, e)
		}
		wheel.Even([api.Classes]int{9, 9, 9})
	}
}
