package cborin

import (
	"truchman/api"
	"truchman/head"
	"truchman/utf"
)

// text is a text, or bytes, that has begun and is not told yet.
type text struct {
	major  int
	chunks bool // it comes in chunks, till a break
	lacks  int  // how many bytes must still come, of its last chunk or of all
	bytes  []byte
	check  utf.Check // of a text's bytes
}

// beginText takes the head of a text, or of bytes. Of an open one no bytes
// follow but chunks.
func (p *Parser) beginText(h head.Head) ([]any, api.Errno) {
	p.text = text{major: h.Major(), chunks: h.Open()}
	return p.expect(h.Value())
}

// chunk takes the head of a chunk, or the break behind the last one.
func (p *Parser) chunk(h head.Head) ([]any, api.Errno) {
	if isBreak(h) {
		return p.endText(), api.OK
	}
	return p.expect(h.Value())
}

// expect says how many bytes of the text follow, ahead of its end or of a
// chunk's head.
func (p *Parser) expect(n uint64) ([]any, api.Errno) {
	if n > uint64(api.MaxText-len(p.text.bytes)) {
		return nil, api.ErrLarge
	}
	p.text.lacks = int(n)
	return p.goOn(), api.OK
}

// byteOfText takes a byte of the text.
func (p *Parser) byteOfText(b byte) ([]any, api.Errno) {
	p.text.lacks--
	p.text.bytes = append(p.text.bytes, b)
	if !p.text.mayHave(b) {
		return nil, api.ErrUtf
	}
	return p.goOn(), api.OK
}

// goOn tells the text, if it lacks no byte and no chunk of it may come.
func (p *Parser) goOn() []any {
	switch {
	case p.text.lacks > 0:
		p.place = inText
	case p.text.chunks:
		p.place = atChunk
	default:
		return p.endText()
	}
	return nil
}

// endText tells the text, and what is at its end with it.
func (p *Parser) endText() []any {
	v := p.text.part()
	p.text = text{}
	return p.ends(v)
}

// mayHave tells whether the last byte may stand there. Each chunk is a text by
// itself, so that the check is as a zero one where the next one begins.
func (t *text) mayHave(b byte) bool {
	if t.major != words {
		return true
	}
	return t.check.Step(b) && (t.lacks > 0 || t.check.Whole())
}

// part tells it as a value.
func (t *text) part() any {
	if t.major == words {
		return api.Word(t.bytes)
	}
	return api.Blob(t.bytes)
}
