package packin

import "truchman/api"

const pair = 2 // items of a Map's count: a key and its value

// container is one that has begun, and is not at its end.
type container struct {
	pairs bool // it is a Map
	lacks int  // how many items must still come to their end
}

// nest is the containers that are open, each in the one ahead of it.
type nest []container

// enter opens one.
func (n *nest) enter(b api.Begin) {
	c := container{pairs: b.Map, lacks: b.Count}
	if b.Map {
		c.lacks *= pair
	}
	*n = append(*n, c)
}

// endItem counts an item that is at its end, and closes the containers that
// are at theirs with it, each an item of the one ahead of it; it tells how
// many those are.
func (n *nest) endItem() int {
	closed := 0
	for n.countsLast() {
		*n = (*n)[:len(*n)-1]
		closed++
	}
	return closed
}

// countsLast counts an item of the innermost container, if one is open, and
// tells whether it was its last.
func (n nest) countsLast() bool {
	if len(n) == 0 {
		return false
	}
	c := &n[len(n)-1]
	c.lacks--
	return c.lacks == 0
}

// atKey tells whether a key's place is next.
func (n nest) atKey() bool {
	k := len(n) - 1
	return k >= 0 && n[k].pairs && n[k].lacks%pair == 0
}
