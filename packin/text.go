package packin

import (
	"truchman/api"
	"truchman/utf"
)

// text is a text, or bytes, that has begun and is not told yet.
type text struct {
	kind  int
	lacks int // how many bytes must still come
	bytes []byte
	check utf.Check // of a text's bytes
}

// beginText takes a text's length, or that of bytes; one of nothing is at its
// end.
func (p *Parser) beginText(i item) ([]any, api.Errno) {
	if i.number > api.MaxText {
		return nil, api.ErrLarge
	}
	p.text = text{kind: i.kind, lacks: int(i.number)}
	return p.goOn(), api.OK
}

// byteOfText takes a byte of the text.
func (p *Parser) byteOfText(b byte) ([]any, api.Errno) {
	p.text.lacks--
	p.text.bytes = append(p.text.bytes, b)
	if !p.text.mayHave(b) {
		return nil, api.ErrUtf
	}
	return p.goOn(), api.OK
}

// goOn tells the text, and what is at its end with it, if it lacks no byte.
func (p *Parser) goOn() []any {
	if p.text.lacks > 0 {
		p.place = inText
		return nil
	}
	v := p.text.part()
	p.text = text{}
	return p.ends(v)
}

// mayHave tells whether the last byte may stand there.
func (t *text) mayHave(b byte) bool {
	if t.kind != words {
		return true
	}
	return t.check.Step(b) && (t.lacks > 0 || t.check.Whole())
}

// part tells it as a value.
func (t *text) part() any {
	if t.kind == words {
		return api.Word(t.bytes)
	}
	return api.Blob(t.bytes)
}
