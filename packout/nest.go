package packout

import "truchman/api"

const pair = 2 // parts of a Map's count: a key and its value

// container is one that has begun, and not ended yet.
type container struct {
	isMap bool
	lacks uint64 // parts that must still come
}

// nest is the containers that are open, each in the one ahead of it.
type nest []container

// enter opens one. The count is one of MessagePack's, and so its double is in
// the range of lacks.
func (n *nest) enter(b api.Begin) {
	c := container{isMap: b.Map, lacks: uint64(b.Count)}
	if b.Map {
		c.lacks *= pair
	}
	*n = append(*n, c)
}

// leave closes the innermost one.
func (n *nest) leave() {
	*n = (*n)[:len(*n)-1]
}

// count counts a part of the innermost one, if one is open.
func (n nest) count() {
	if k := len(n) - 1; k >= 0 {
		n[k].lacks--
	}
}

// isFull tells whether one is open, and the innermost one has all its parts.
func (n nest) isFull() bool {
	k := len(n) - 1
	return k >= 0 && n[k].lacks == 0
}

// atKey tells whether a key's place is next.
func (n nest) atKey() bool {
	k := len(n) - 1
	return k >= 0 && n[k].isMap && n[k].lacks%pair == 0
}
