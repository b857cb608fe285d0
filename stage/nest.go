package stage

import "truchman/api"

const (
	unknown = -1 // the count of a container that does not say it
	pair    = 2  // parts of a Map's count: a key and its value
)

// container is one that has begun, and not ended yet.
type container struct {
	begin api.Begin
	at    int // where that is among what is held
	parts int // that are in it so far
}

// nest is the containers that are open, each in the one ahead of it, from the
// outermost one of no count on: those around it went on as they came.
type nest []container

// enter opens one.
func (n *nest) enter(c container) {
	*n = append(*n, c)
}

// leave closes the innermost one, and tells it.
func (n *nest) leave() container {
	last := len(*n) - 1
	c := (*n)[last]
	*n = (*n)[:last]
	return c
}

// count counts a part of the innermost one, if one is open.
func (n nest) count() {
	if k := len(n) - 1; k >= 0 {
		n[k].parts++
	}
}

// counted tells its begin with its count: as it said, or, if it did not, of
// the parts that came.
func (c container) counted() api.Begin {
	b := c.begin
	if b.Count != unknown {
		return b
	}
	b.Count = c.parts
	if b.Map {
		b.Count /= pair
	}
	return b
}
