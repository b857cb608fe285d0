package cborout

import "truchman/api"

const (
	unknown = -1 // the count of a container that does not say it
	pair    = 2  // parts of a Map's count: a key and its value
)

// container is one that has begun, and not ended yet.
type container struct {
	begin api.Begin
	parts int // that are in it so far
}

// nest is the containers that are open, each in the one ahead of it.
type nest []container

// enter opens one.
func (n *nest) enter(b api.Begin) {
	*n = append(*n, container{begin: b})
}

// leave closes the innermost one, and tells whether its count was known.
func (n *nest) leave() bool {
	last := len(*n) - 1
	counted := (*n)[last].begin.Count != unknown
	*n = (*n)[:last]
	return counted
}

// count counts a part of the innermost one, if one is open.
func (n nest) count() {
	if k := len(n) - 1; k >= 0 {
		n[k].parts++
	}
}

// isFull tells whether the innermost one may have no part more.
func (n nest) isFull() bool {
	k := len(n) - 1
	return k >= 0 && n[k].hasAll()
}

// atKey tells whether a key's place is next.
func (n nest) atKey() bool {
	k := len(n) - 1
	return k >= 0 && n[k].begin.Map && !n[k].lacksValue()
}

// mayEnd tells whether a container is open that may end now.
func (n nest) mayEnd() bool {
	k := len(n) - 1
	return k >= 0 && n[k].mayEnd()
}

// mayEnd tells whether all that must be in it is there.
func (c container) mayEnd() bool {
	if c.begin.Count == unknown {
		return !c.lacksValue()
	}
	return c.hasAll()
}

// hasAll tells whether it has as many parts as its count says, never more: a
// key behind the last value does not come. The parts are halved, and not the
// count doubled: that might be no int.
func (c container) hasAll() bool {
	has := c.parts
	if c.begin.Map {
		has /= pair
	}
	return has == c.begin.Count
}

// lacksValue tells whether it is a Map whose last part is a key.
func (c container) lacksValue() bool {
	return c.begin.Map && c.parts%pair != 0
}
