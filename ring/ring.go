// Package ring is layer 1: see shared/doc/01-ring.md.
package ring

import "carousel/api"

// Ring is a queue with a fixed room.
type Ring[T any] struct {
	self  *Ring[T] // the ring itself, so that one that New and Copy did not give is told from one that they gave
	room  int
	slots []T // no more than things have needed: a room of many places costs nothing till they come
	head  int
	count int
}

// New is an empty ring.
func New[T any](room int) (*Ring[T], api.Errno) {
	if !mayBeRoom(room) {
		return nil, api.ErrArg
	}
	return made[T](room, nil), api.OK
}

func mayBeRoom(room int) bool { return room >= 1 && room <= api.MaxRing }

func made[T any](room int, things []T) *Ring[T] {
	r := &Ring[T]{room: room, slots: things, count: len(things)}
	r.self = r
	return r
}

// given tells whether New or Copy gave the ring. A struct copied by hand would share its slots with the first one: its self gives it away.
func (r *Ring[T]) given() bool { return r != nil && r.self == r }

// Push puts something at the tail.
func (r *Ring[T]) Push(x T) api.Errno {
	if !r.given() {
		return api.ErrArg
	}
	if r.count == r.room {
		return api.ErrFull
	}
	r.grow(1)
	r.add(x)
	return api.OK
}

// Pop takes the head out.
func (r *Ring[T]) Pop() (x T, e api.Errno) { return r.Take(0) }

// At is what stands at a place, from the head on.
func (r *Ring[T]) At(i int) (x T, e api.Errno) {
	if !r.given() {
		return x, api.ErrArg
	}
	if i < 0 || i >= r.count {
		return x, api.ErrNone
	}
	return r.slots[r.slot(i)], api.OK
}

// Take takes out what stands at a place.
func (r *Ring[T]) Take(i int) (x T, e api.Errno) {
	x, e = r.At(i)
	if e != api.OK {
		return x, e
	}
	// The shorter side closes up, so that neither end costs more than the other.
	if i < r.count-1-i {
		r.closeFromHead(i)
	} else {
		r.closeFromTail(i)
	}
	return x, api.OK
}

// Len is how many there are.
func (r *Ring[T]) Len() int {
	if !r.given() {
		return 0
	}
	return r.count
}

// Room is how many more there may be.
func (r *Ring[T]) Room() int {
	if !r.given() {
		return 0
	}
	return r.room - r.count
}

// Items are all, the head first.
func (r *Ring[T]) Items() []T {
	if !r.given() {
		return nil
	}
	return r.from(0)
}

// Cut takes the last ones out, in order.
func (r *Ring[T]) Cut(n int) ([]T, api.Errno) {
	if !r.given() || n < 0 {
		return nil, api.ErrArg
	}
	if n > r.count {
		return nil, api.ErrNone
	}
	last := r.from(r.count - n)
	for range n {
		r.closeFromTail(r.count - 1)
	}
	return last, api.OK
}

// Join puts some at the tail: all, or none.
func (r *Ring[T]) Join(l []T) api.Errno {
	if !r.given() {
		return api.ErrArg
	}
	if len(l) > r.room-r.count {
		return api.ErrFull
	}
	r.grow(len(l))
	for _, x := range l {
		r.add(x)
	}
	return api.OK
}

// Copy is a ring as this one is now.
func (r *Ring[T]) Copy() *Ring[T] {
	if !r.given() {
		return nil
	}
	return made(r.room, r.from(0))
}

// Windows are a list's parts, none longer than a room.
func Windows[T any](l []T, room int) ([][]T, api.Errno) {
	if !mayBeRoom(room) {
		return nil, api.ErrArg
	}
	rest := make([]T, len(l))
	copy(rest, l)
	var parts [][]T
	for len(rest) > 0 {
		n := min(room, len(rest))
		// The third index keeps whoever appends to a window out of the next one.
		parts = append(parts, rest[:n:n])
		rest = rest[n:]
	}
	return parts, api.OK
}

// slot is where the thing with i ahead of it stands.
func (r *Ring[T]) slot(i int) int { return (r.head + i) % len(r.slots) }

// from are the things from place i on, in memory of their own.
func (r *Ring[T]) from(i int) []T {
	l := make([]T, r.count-i)
	for k := range l {
		l[k] = r.slots[r.slot(i+k)]
	}
	return l
}

// grow makes slots for n more. It doubles them, so that many pushes copy each thing but a few times.
func (r *Ring[T]) grow(n int) {
	need := r.count + n
	if need <= len(r.slots) {
		return
	}
	slots := make([]T, min(max(need, 2*len(r.slots)), r.room))
	for k := range r.count {
		slots[k] = r.slots[r.slot(k)]
	}
	r.slots, r.head = slots, 0
}

// add puts x at the tail, where grow has made a slot for it.
func (r *Ring[T]) add(x T) {
	r.slots[r.slot(r.count)] = x
	r.count++
}

// closeFromHead closes the gap at place i with those ahead of it.
func (r *Ring[T]) closeFromHead(i int) {
	for k := i; k > 0; k-- {
		r.slots[r.slot(k)] = r.slots[r.slot(k-1)]
	}
	r.wipe(0)
	r.head = r.slot(1)
	r.count--
}

// closeFromTail closes the gap at place i with those behind it.
func (r *Ring[T]) closeFromTail(i int) {
	for k := i; k < r.count-1; k++ {
		r.slots[r.slot(k)] = r.slots[r.slot(k+1)]
	}
	r.wipe(r.count - 1)
	r.count--
}

// wipe empties a slot: the ring is not to keep what has gone out.
func (r *Ring[T]) wipe(i int) {
	var none T
	r.slots[r.slot(i)] = none
}
