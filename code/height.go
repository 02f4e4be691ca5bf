package code

import (
	"slices"

	"carousel/api"
)

// never is the height of a place that is never come to.
const never = -1

// flow is what is found of a function's heights.
type flow struct {
	m       api.Module
	code    []api.Instr
	heights []int
	waits   []bool // which places have a height, and were not gone through
	next    int    // no place ahead of it waits
}

// heightsOf finds the heights of a function whose instructions may be: or why they are refused, and at which place.
func heightsOf(m api.Module, fn int) (heights []int, e api.Errno, at int) {
	code := m.Funcs[fn].Code
	f := flow{m: m, code: code, heights: slices.Repeat([]int{never}, len(code)), waits: make([]bool, len(code))}
	f.reach(0, 0)
	if e, at = f.find(); e != api.OK {
		return nil, e, at
	}
	return f.heights, api.OK, 0
}

// find goes through all places that are come to. Which one is refused first hangs on their order: the least one that waits comes next, and a jump back may make that an earlier one.
func (f *flow) find() (e api.Errno, at int) {
look:
	at = f.next
	if at == len(f.code) {
		return api.OK, 0
	}
	if !f.waits[at] {
		f.next++
		goto look
	}
	f.waits[at] = false
	if e = f.through(at); e != api.OK {
		return e, at
	}
	goto look
}

// through goes through a place: all to which it leads have the height behind it from then on.
func (f *flow) through(at int) api.Errno {
	takes, leaves, e := Effect(f.m, f.code[at])
	if e != api.OK {
		return e
	}
	height := f.heights[at] - takes + leaves
	if takes > f.heights[at] || height > api.MaxStack {
		return api.ErrHeight
	}
	for _, to := range leads(f.code[at], at) {
		if to == len(f.code) {
			return api.ErrFall
		}
		if !f.reach(to, height) {
			return api.ErrHeight
		}
	}
	return api.OK
}

// reach gives a place a height, if it has none; it tells whether it has that one then.
func (f *flow) reach(to, height int) bool {
	if f.heights[to] == never {
		f.heights[to] = height
		f.waits[to] = true
		f.next = min(f.next, to)
	}
	return f.heights[to] == height
}
