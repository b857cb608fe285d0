package event

import "truchman/api"

const (
	unknown = -1 // the count of a container that does not say it
	pair    = 2  // parts of a Map's count: a key and its value
)

// container is one that has begun, and not ended yet.
type container struct {
	pairs bool // it is a Map
	count int  // as it said; or unknown
	parts int  // that are in it so far
}

// document is one whose parts come one by one.
type document struct {
	open  []container // each is in the one ahead of it
	whole bool        // it is at its end
}

// take takes a part; an error, if it may not come now.
func (d *document) take(e api.Ev) api.Errno {
	if _, is := Of(e); !is || d.whole {
		return api.ErrForm
	}
	if e.Kind == api.End {
		return d.end()
	}
	if e.Kind != api.Text && d.atKey() {
		return api.ErrKind
	}
	begins := e.Kind == api.Array || e.Kind == api.Map
	if begins && len(d.open) == api.MaxDepth {
		return api.ErrDeep
	}
	if n := len(d.open); n > 0 {
		d.open[n-1].parts++
	}
	if begins {
		d.open = append(d.open, container{pairs: e.Kind == api.Map, count: e.Count})
	}
	d.whole = len(d.open) == 0
	return api.OK
}

// end ends the innermost container.
func (d *document) end() api.Errno {
	last := len(d.open) - 1
	if last < 0 || !d.open[last].mayEnd() {
		return api.ErrForm
	}
	d.open = d.open[:last]
	d.whole = last == 0
	return api.OK
}

// atKey tells whether a key's place is next.
func (d *document) atKey() bool {
	n := len(d.open)
	return n > 0 && d.open[n-1].pairs && d.open[n-1].parts%pair == 0
}

// mayEnd tells whether all that must be in it is there, and no more. The parts
// are halved, and not the count doubled: that might be no int.
func (c container) mayEnd() bool {
	has := c.parts
	if c.pairs {
		if has%pair != 0 {
			return false
		}
		has /= pair
	}
	return c.count == unknown || c.count == has
}
