package packin

import "truchman/api"

// What an item is.
const (
	noForm = iota
	wholes
	belowZero // as it is in a first byte: less 1 less its number
	twos      // a whole number of two's complement
	simples
	floats
	extensions
	blobs
	words
	arrays
	maps
)

// How the number behind a first byte is said to a head, by the lowest bits of
// its own first byte: each time twice as many bytes follow.
const (
	oneFollows = 24 + iota
	twoFollow
)

// item is what a first byte says: what it is, and its number, or the form of
// the one that follows.
type item struct {
	kind   int
	number uint64
	form   byte // 0: none follows
}

// A first byte from one of these on has its number in its lowest bits, up to
// the next of them; but those of small numbers below zero count down, and those
// ahead of them are told apart by otherItem.
const (
	lowestMap   = 0x80
	lowestArray = 0x90
	lowestWord  = 0xa0
	lowestOther = 0xc0
	lowestBelow = 0xe0
	highest     = 0xff
)

// itemOf tells what a first byte says.
func itemOf(b byte) item {
	switch {
	case b < lowestMap:
		return item{kind: wholes, number: uint64(b)}
	case b < lowestArray:
		return item{kind: maps, number: uint64(b - lowestMap)}
	case b < lowestWord:
		return item{kind: arrays, number: uint64(b - lowestArray)}
	case b < lowestOther:
		return item{kind: words, number: uint64(b - lowestWord)}
	case b < lowestBelow:
		return otherItem(b)
	}
	return item{kind: belowZero, number: uint64(highest - b)}
}

// The first bytes that have no number in them. Where there are several of a
// kind with a number behind them, the first one stands here, and of each next
// one the number has twice as many bytes.
const (
	null      = 0xc0
	reserved  = 0xc1
	no        = 0xc2
	yes       = 0xc3
	aBlob     = 0xc4
	extension = 0xc7
	aFloat    = 0xca
	aWhole    = 0xcc
	aTwos     = 0xd0
	sizedOne  = 0xd4 // an extension too
	aWord     = 0xd9
	anArray   = 0xdc
	aMap      = 0xde
)

// otherItem tells what one of those says.
func otherItem(b byte) item {
	switch {
	case b == reserved:
		return item{kind: noForm}
	case b < aBlob:
		return item{kind: simples, number: uint64(b)}
	case b < extension:
		return item{kind: blobs, form: oneFollows + b - aBlob}
	case b < aFloat:
		return item{kind: extensions}
	case b < aWhole:
		return item{kind: floats}
	case b < aTwos:
		return item{kind: wholes, form: oneFollows + b - aWhole}
	case b < sizedOne:
		return item{kind: twos, form: oneFollows + b - aTwos}
	case b < aWord:
		return item{kind: extensions}
	case b < anArray:
		return item{kind: words, form: oneFollows + b - aWord}
	case b < aMap:
		return item{kind: arrays, form: twoFollow + b - anArray}
	}
	return item{kind: maps, form: twoFollow + b - aMap}
}

// refuses tells the error of an item that may not come now.
func (p *Parser) refuses(kind int) api.Errno {
	switch {
	case kind == noForm:
		return api.ErrForm
	case p.open.atKey() && kind != words:
		return api.ErrKind
	case kind == extensions:
		return api.ErrKind
	case kind == floats:
		return api.ErrFloat
	case (kind == arrays || kind == maps) && len(p.open) == p.depth:
		return api.ErrDeep
	}
	return api.OK
}
