package jsonin

import (
	"truchman/api"
	"truchman/lexer"
)

const unknown = -1 // the count of a container: JSON does not say it

// What may come next.
const (
	atValue     = iota // a value
	atFirst            // a value, or the end of its array
	atKey              // a key
	atFirstKey         // a key, or the end of its map
	atColon            // the one behind a key
	behindValue        // a comma, or the container's end; outside of all nothing
)

// read takes what the lexer told, and tells the parts ahead of the first error.
func (p *Parser) read(tokens []lexer.Token, e api.Errno) ([]any, api.Errno) {
	var parts []any
	for _, t := range tokens {
		v, is := partOf(t)
		if wrong := p.take(t.Kind, v); wrong != api.OK {
			return parts, wrong
		}
		if is {
			parts = append(parts, v)
		}
	}
	return parts, e
}

// partOf tells the part that a token is; a colon and a comma are none.
func partOf(t lexer.Token) (any, bool) {
	switch t.Kind {
	case '[', '{':
		return api.Begin{Map: t.Kind == '{', Count: unknown}, true
	case ']', '}':
		return api.Close{}, true
	case 's':
		return api.Word(t.Text), true
	case 'n':
		return t.Num, true
	case 't', 'f':
		return t.Kind == 't', true
	case '0':
		return nil, true
	}
	return nil, false
}

// take takes a token of a kind, of which v is the part; an error, if it may
// not come now.
func (p *Parser) take(kind byte, v any) api.Errno {
	switch kind {
	case ':':
		return p.colon()
	case ',':
		return p.comma()
	case ']', '}':
		return p.end(kind == '}')
	}
	if p.place == atKey || p.place == atFirstKey {
		return p.key(v)
	}
	return p.value(v)
}

// colon takes the one between a key and its value.
func (p *Parser) colon() api.Errno {
	if p.place != atColon {
		return api.ErrForm
	}
	p.place = atValue
	return api.OK
}

// comma takes one behind a value in a container.
func (p *Parser) comma() api.Errno {
	if p.open == 0 || p.place != behindValue {
		return api.ErrForm
	}
	p.place = atValue
	if p.inMap() {
		p.place = atKey
	}
	return api.OK
}

// end ends the innermost container, if it is of that kind and may end here.
func (p *Parser) end(isMap bool) api.Errno {
	if p.open == 0 || p.inMap() != isMap {
		return api.ErrForm
	}
	if p.place != behindValue && p.place != atFirst && p.place != atFirstKey {
		return api.ErrForm
	}
	p.open--
	p.place = behindValue
	return api.OK
}

// key takes what stands at a key's place.
func (p *Parser) key(v any) api.Errno {
	if _, is := v.(api.Word); !is {
		return api.ErrForm
	}
	p.place = atColon
	return api.OK
}

// value takes what is a value, or where one begins.
func (p *Parser) value(v any) api.Errno {
	if p.place != atValue && p.place != atFirst {
		return api.ErrForm
	}
	if b, is := v.(api.Begin); is {
		return p.begin(b)
	}
	p.place = behindValue
	return api.OK
}

// begin opens a container.
func (p *Parser) begin(b api.Begin) api.Errno {
	if p.open == p.depth {
		return api.ErrDeep
	}
	p.maps[p.open] = b.Map
	p.open++
	p.place = atFirst
	if b.Map {
		p.place = atFirstKey
	}
	return api.OK
}

// inMap tells whether the innermost container is a map.
func (p *Parser) inMap() bool {
	return p.maps[p.open-1]
}
