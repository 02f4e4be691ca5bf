package homes

import "carousel/api"

// counts are how many actors there are of each class at each core that there may be. They are values: a change is tried on a copy, which takes their place only if all of it may be.
type counts [api.MaxCores][api.Classes]int

// with is counts with n more of a class at a core; of counts that may be, only that one can be refused.
func (c counts) with(core, class, n int) (counts, api.Errno) {
	c[core][class] += n
	switch {
	case c == c.clipped():
		return c, api.OK
	case n < 0:
		return counts{}, api.ErrNone
	}
	return counts{}, api.ErrQueue
}

// clipped is counts of which none is below 0 or above QueueCap: such as may be are their own.
func (c counts) clipped() counts {
	for core := range api.MaxCores {
		for class := range api.Classes {
			c[core][class] = min(max(c[core][class], 0), api.QueueCap)
		}
	}
	return c
}
