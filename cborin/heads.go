package cborin

import (
	"truchman/api"
	"truchman/head"
)

// The majors of heads.
const (
	wholes = iota
	belowZero
	blobs
	words
	arrays
	maps
	tags
	others
)

// What a head of others is, by the lowest bits of its first byte.
const (
	no        = 20
	yes       = 21
	null      = 22
	halfFloat = 25
	fullFloat = 26
	longFloat = 27
	lowMask   = 31
)

// byteOfHead takes a byte of a head. The first one tells whether it may come;
// the ones behind it are asked as well, but what one may come by stays as it
// was: only others are told by more than their major, and none goes on.
func (p *Parser) byteOfHead(b byte) ([]any, api.Errno) {
	atEnd, e := p.head.Step(b)
	if e == api.OK {
		e = p.refuses(b & lowMask)
	}
	if e != api.OK || !atEnd {
		return nil, e
	}
	h := p.head
	p.head.Clear()
	if p.place == atChunk {
		return p.chunk(h)
	}
	return p.begins(h)
}

// refuses tells the error of a head that may not come now.
func (p *Parser) refuses(low byte) api.Errno {
	switch {
	case p.place == atChunk:
		return p.refusesChunk()
	case isBreak(p.head):
		return p.refusesBreak()
	}
	return p.refusesItem(low)
}

// refusesChunk tells the error of what is no chunk of the text that is open,
// and not its end.
func (p *Parser) refusesChunk() api.Errno {
	if isBreak(p.head) || p.head.Major() == p.text.major && !p.head.Open() {
		return api.OK
	}
	return api.ErrForm
}

// refusesBreak tells the error of a break that ends no container.
func (p *Parser) refusesBreak() api.Errno {
	if p.open.mayBreak() {
		return api.OK
	}
	return api.ErrForm
}

// refusesItem tells the error of an item that may not come now.
func (p *Parser) refusesItem(low byte) api.Errno {
	major := p.head.Major()
	switch {
	case p.head.Open() && !mayOpen(major):
		return api.ErrForm
	case p.open.atKey() && major != words:
		return api.ErrKind
	case major == tags:
		return api.ErrKind
	case major == others:
		return refusesOther(low)
	case (major == arrays || major == maps) && len(p.open) == p.depth:
		return api.ErrDeep
	}
	return api.OK
}

// refusesOther tells the error of one of others that is no part.
func refusesOther(low byte) api.Errno {
	switch low {
	case no, yes, null:
		return api.OK
	case halfFloat, fullFloat, longFloat:
		return api.ErrFloat
	}
	return api.ErrKind
}

// isBreak tells whether a head ends what is open.
func isBreak(h head.Head) bool {
	return h.Major() == others && h.Open()
}

// mayOpen tells whether an item of that major may be open till a break.
func mayOpen(major int) bool {
	return major >= blobs && major <= maps
}
