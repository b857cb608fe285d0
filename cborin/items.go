package cborin

import (
	"truchman/api"
	"truchman/head"
)

// What may come next.
const (
	atItem    = iota // a byte of an item's head, or a break
	atChunk          // a byte of the head of a text's chunk, or a break
	inText           // a byte of a text, or of bytes
	behindAll        // nothing
)

// take takes a byte behind which no error was.
func (p *Parser) take(b byte) ([]any, api.Errno) {
	switch p.place {
	case behindAll:
		return nil, api.ErrForm
	case inText:
		return p.byteOfText(b)
	}
	return p.byteOfHead(b)
}

// begins takes the whole head of an item, or a break.
func (p *Parser) begins(h head.Head) ([]any, api.Errno) {
	switch h.Major() {
	case wholes, belowZero:
		return p.ends(api.Whole{Neg: h.Major() == belowZero, Mag: h.Value()}), api.OK
	case blobs, words:
		return p.beginText(h)
	case arrays, maps:
		return p.beginContainer(h)
	}
	if isBreak(h) {
		p.open.leave()
		return p.ends(api.Close{}), api.OK
	}
	return p.ends(simple(h.Value())), api.OK
}

// beginContainer takes the head of a container; one of nothing is at its end.
func (p *Parser) beginContainer(h head.Head) ([]any, api.Errno) {
	if h.Value() > MaxCount {
		return nil, api.ErrRange
	}
	b := api.Begin{Map: h.Major() == maps, Count: int(h.Value())}
	if h.Open() {
		b.Count = unknown
	}
	if b.Count == 0 {
		return p.ends(b, api.Close{}), api.OK
	}
	p.open.enter(b)
	return []any{b}, api.OK
}

// ends tells the last parts of an item, and the ends of the containers that
// are at their end with it.
func (p *Parser) ends(parts ...any) []any {
	for range p.open.endItem() {
		parts = append(parts, api.Close{})
	}
	p.place = atItem
	if len(p.open) == 0 {
		p.place = behindAll
	}
	return parts
}

// simple tells the part that the value of one of others is.
func simple(v uint64) any {
	if v == null {
		return nil
	}
	return v == yes
}
