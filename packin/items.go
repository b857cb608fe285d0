package packin

import (
	"truchman/api"
	"truchman/cborin"
)

// What may come next.
const (
	atItem    = iota // the first byte of an item
	inNumber         // a byte of the number behind it
	inText           // a byte of a text, or of bytes
	behindAll        // nothing
)

const (
	numberBits = 64
	byteBits   = 8
)

// take takes a byte behind which no error was.
func (p *Parser) take(b byte) ([]any, api.Errno) {
	switch p.place {
	case behindAll:
		return nil, api.ErrForm
	case inNumber:
		return p.byteOfNumber(b)
	case inText:
		return p.byteOfText(b)
	}
	return p.firstByte(b)
}

// firstByte takes the first byte of an item; its number may follow it.
func (p *Parser) firstByte(b byte) ([]any, api.Errno) {
	i := itemOf(b)
	if e := p.refuses(i.kind); e != api.OK {
		return nil, e
	}
	if i.form == 0 {
		return p.begins(i)
	}
	p.item, p.place = i, inNumber
	p.head.Clear()
	_, e := p.head.Step(i.form)
	return nil, e
}

// byteOfNumber takes a byte of an item's number.
func (p *Parser) byteOfNumber(b byte) ([]any, api.Errno) {
	atEnd, e := p.head.Step(b)
	if e != api.OK || !atEnd {
		return nil, e
	}
	p.item.number = p.head.Value()
	return p.begins(p.item)
}

// begins takes an item whose number is known.
func (p *Parser) begins(i item) ([]any, api.Errno) {
	switch i.kind {
	case blobs, words:
		return p.beginText(i)
	case arrays, maps:
		return p.beginContainer(i)
	}
	return p.ends(i.part()), api.OK
}

// beginContainer takes one; one of nothing is at its end.
func (p *Parser) beginContainer(i item) ([]any, api.Errno) {
	if i.number > cborin.MaxCount {
		return nil, api.ErrRange
	}
	b := api.Begin{Map: i.kind == maps, Count: int(i.number)}
	if b.Count == 0 {
		return p.ends(b, api.Close{}), api.OK
	}
	p.open.enter(b)
	p.place = atItem
	return []any{b}, api.OK
}

// ends tells the last parts of an item, and the ends of the containers that
// are at their end with it.
func (p *Parser) ends(parts ...any) []any {
	for range p.open.endItem() {
		parts = append(parts, api.Close{})
	}
	p.place = atItem
	if len(p.open) == 0 {
		p.place = behindAll
	}
	return parts
}

// part tells the part that an item with nothing behind its number is.
func (i item) part() any {
	switch {
	case i.kind == belowZero:
		return api.Whole{Neg: true, Mag: i.number}
	case i.kind == twos:
		return wholeOf(i.number, byteBits<<(i.form-oneFollows))
	case i.kind == wholes:
		return api.Whole{Mag: i.number}
	case i.number == null:
		return nil
	}
	return i.number == yes
}

// wholeOf tells a number of so many bits, of two's complement: its highest bit
// is drawn on to those that it has not.
func wholeOf(v uint64, bits int) api.Whole {
	n := int64(v<<(numberBits-bits)) >> (numberBits - bits)
	if n < 0 {
		return api.Whole{Neg: true, Mag: uint64(^n)}
	}
	return api.Whole{Mag: uint64(n)}
}
