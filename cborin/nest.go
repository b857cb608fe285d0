package cborin

import "truchman/api"

const (
	unknown = -1 // the count of a container that does not say it
	pair    = 2  // items of a Map's count: a key and its value
)

// container is one that has begun, and is not at its end.
type container struct {
	pairs bool // it is a Map
	count int  // of all its items; or unknown
	items int  // that are at their end so far
}

// nest is the containers that are open, each in the one ahead of it.
type nest []container

// enter opens one.
func (n *nest) enter(b api.Begin) {
	c := container{pairs: b.Map, count: b.Count}
	if b.Map && b.Count != unknown {
		c.count *= pair
	}
	*n = append(*n, c)
}

// leave closes the innermost one.
func (n *nest) leave() {
	*n = (*n)[:len(*n)-1]
}

// endItem counts an item that is at its end, and closes the containers that
// are at theirs with it, each an item of the one ahead of it; it tells how
// many those are.
func (n *nest) endItem() int {
	closed := 0
	for n.countsLast() {
		n.leave()
		closed++
	}
	return closed
}

// countsLast counts an item of the innermost container, if one is open, and
// tells whether it was its last.
func (n nest) countsLast() bool {
	if len(n) == 0 {
		return false
	}
	c := &n[len(n)-1]
	c.items++
	return c.items == c.count
}

// atKey tells whether a key's place is next.
func (n nest) atKey() bool {
	k := len(n) - 1
	return k >= 0 && n[k].pairs && !n[k].lacksValue()
}

// mayBreak tells whether a container is open that may end by a break here.
func (n nest) mayBreak() bool {
	k := len(n) - 1
	return k >= 0 && n[k].count == unknown && !n[k].lacksValue()
}

// lacksValue tells whether it is a Map whose last item is a key.
func (c container) lacksValue() bool {
	return c.pairs && c.items%pair != 0
}
