package homes_test

import (
	"testing"

	"carousel/api"
)

func TestHo2CountAndRoom(t *testing.T) {
	for _, s := range states() {
		a := s.made(t)
		holds(t, a, s)
		for _, core := range noCores(len(s)) {
			for _, class := range append(noClasses(), 0, 1, 2) {
				if n := a.Count(core, class); n != 0 {
					t.Fatalf("Count(%d, %d): %d", core, class, n)
				}
			}
			if room := a.Room(core); room != (row{}) {
				t.Fatalf("Room(%d): %v, of %v", core, room, s)
			}
		}
		for _, class := range noClasses() {
			for core := range s {
				if n := a.Count(core, class); n != 0 {
					t.Fatalf("Count(%d, %d): %d", core, class, n)
				}
			}
		}
		holds(t, a, s)
	}
}

// Count and Room by hand, in each place another number.
func TestHo2CountAndRoomByHand(t *testing.T) {
	a := state{{0, 1, 2}, {62, 63, 64}, {30, 40, 50}}.made(t)
	for i, n := range []int{0, 1, 2, 62, 63, 64, 30, 40, 50} {
		if got := a.Count(i/3, i%3); got != n {
			t.Errorf("Count(%d, %d): %d, not %d", i/3, i%3, got, n)
		}
	}
	for core, room := range []row{{64, 63, 62}, {2, 1, 0}, {34, 24, 14}, {}} {
		if got := a.Room(core); got != room {
			t.Errorf("Room(%d): %v, not %v", core, got, room)
		}
	}
}

func TestHo2Least(t *testing.T) {
	sixteen := []int{9, 9, 9, 9, 9, 9, 9, 9, 9, 9, 9, 9, 9, 9, 9, 9}
	last := append(sixteen[:15:15], 8)
	for _, x := range []struct {
		counts []int
		core   int
	}{
		{[]int{0}, 0}, {[]int{64}, 0}, {[]int{0, 0}, 0}, {[]int{5, 5, 5}, 0}, {[]int{64, 64, 64}, 0}, {sixteen, 0}, // equal counts
		{[]int{1, 2}, 0}, {[]int{0, 64, 64}, 0}, {[]int{3, 4, 5, 6}, 0}, // at the first core
		{[]int{2, 1}, 1}, {[]int{64, 64, 63}, 2}, {[]int{6, 5, 4, 3}, 3}, {last, 15}, // at the last one
		{[]int{2, 1, 2}, 1}, {[]int{9, 8, 0, 8, 9}, 2}, {[]int{1, 2, 3, 0, 4}, 3}, // in the middle
		{[]int{2, 1, 1}, 1}, {[]int{2, 1, 2, 1}, 1}, {[]int{1, 2, 1}, 0}, {[]int{9, 3, 9, 3, 3, 9}, 1}, {[]int{64, 0, 64, 0}, 1}, // twice
	} {
		for class := range api.Classes {
			s := classOf(class, x.counts...)
			a := s.made(t)
			wantLeast(t, a, class, x.core)
			holds(t, a, s)
		}
	}
}

// The fewest of a class stand where they do, whatever the other classes have.
func TestHo2LeastHangsOnNoOtherClass(t *testing.T) {
	for class := range api.Classes {
		a := begun(t, 4)
		for core, n := range []int{3, 1, 2, 1} {
			for range n {
				wantTake(t, a, core, class, api.OK)
			}
		}
		for core := range 4 {
			for other := range api.Classes {
				if other == class {
					continue
				}
				for range 64 {
					wantTake(t, a, core, other, api.OK)
					wantLeast(t, a, class, 1)
				}
			}
		}
		for core := range 4 {
			for other := range api.Classes {
				for range 64 {
					if other != class {
						wantGive(t, a, core, other, api.OK)
						wantLeast(t, a, class, 1)
					}
				}
			}
		}
	}
}

// Each class has a least core of its own, and it changes with the counts.
func TestHo2LeastOfEachClass(t *testing.T) {
	a := state{{0, 9, 9}, {9, 0, 9}, {9, 9, 0}}.made(t)
	for class := range api.Classes {
		wantLeast(t, a, class, class)
	}
	wantMove(t, a, 1, 0, api.High, 9, api.OK)
	wantLeast(t, a, api.High, 1)
	wantTake(t, a, 1, api.Normal, api.OK)
	wantLeast(t, a, api.Normal, 1)
	for range 9 {
		wantTake(t, a, 2, api.Low, api.OK)
	}
	wantLeast(t, a, api.Low, 0)
	wantGive(t, a, 1, api.Low, api.OK)
	wantLeast(t, a, api.Low, 1)
}

// Cores that accounts of fewer have not are not the least ones.
func TestHo2LeastIsACoreThatThereIs(t *testing.T) {
	for cores := 1; cores <= 16; cores++ {
		for class := range api.Classes {
			a := alike(cores, row{64, 64, 64}).made(t)
			wantLeast(t, a, class, 0)
			wantGive(t, a, cores-1, class, api.OK)
			wantLeast(t, a, class, cores-1)
		}
	}
}

func TestHo2LeastOfNoClass(t *testing.T) {
	for _, s := range states() {
		a := s.made(t)
		for _, class := range noClasses() {
			if core, e := a.Least(class); core != 0 || e != api.ErrArg {
				t.Fatalf("Least(%d): %d, %d", class, core, e)
			}
		}
		holds(t, a, s)
	}
}
