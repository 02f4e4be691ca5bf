package core

import (
	"carousel/api"
	"carousel/ring"
)

// queue is a core's of one class. It embeds the ring that is its room: what a ring can do, a queue can.
type queue struct{ *ring.Ring[api.Entry] }

// queueOf is the queue of a list.
func queueOf(l []api.Entry) (queue, api.Errno) {
	r, e := ring.New[api.Entry](api.QueueCap)
	if e == api.OK {
		e = r.Join(l)
	}
	return queue{r}, e
}

// find is how many stand ahead of an actor; -1, if it does not stand here.
func (q queue) find(p api.Pid) int {
	for i := range q.Len() {
		if x, e := q.At(i); e == api.OK && x.Pid == p {
			return i
		}
	}
	return -1
}

// queues are a core's, by the classes.
type queues [api.Classes]queue

// queuesOf are the queues of lists.
func queuesOf(lists [api.Classes][]api.Entry) (queues, api.Errno) {
	var qs queues
	for class, l := range lists {
		q, e := queueOf(l)
		if e != api.OK {
			return queues{}, e
		}
		qs[class] = q
	}
	return qs, api.OK
}

// waiting tells of each class whether the core waits for it.
func (qs *queues) waiting() [api.Classes]bool {
	var has [api.Classes]bool
	for class := range api.Classes {
		has[class] = qs[class].Len() > 0
	}
	return has
}

// find is where an actor stands.
func (qs *queues) find(p api.Pid) (class, at int, e api.Errno) {
	for class, q := range qs {
		if at := q.find(p); at >= 0 {
			return class, at, api.OK
		}
	}
	return 0, 0, api.ErrNone
}

// lists are the queues' entries, class by class.
func (qs *queues) lists() [][]api.Entry {
	l := make([][]api.Entry, api.Classes)
	for class := range api.Classes {
		l[class] = qs[class].Items()
	}
	return l
}

// copied are queues as these are now.
func (qs *queues) copied() queues {
	var other queues
	for class := range api.Classes {
		other[class] = queue{qs[class].Copy()}
	}
	return other
}

// anyTwice tells whether a pid stands twice in some lists, taken together.
func anyTwice(lists ...[]api.Entry) bool {
	met := map[api.Pid]struct{}{}
	for _, l := range lists {
		for _, x := range l {
			if _, was := met[x.Pid]; was {
				return true
			}
			met[x.Pid] = struct{}{}
		}
	}
	return false
}

// pinned is a list with all its entries pinned.
func pinned(l []api.Entry) []api.Entry {
	other := make([]api.Entry, len(l))
	for i, x := range l {
		other[i] = api.Entry{Pid: x.Pid, Pinned: true}
	}
	return other
}
