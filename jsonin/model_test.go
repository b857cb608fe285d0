package jsonin_test

import (
	"reflect"
	"strings"
	"testing"

	"truchman/api"
	"truchman/event"
	"truchman/jsonin"
	"truchman/lexer"
)

// state is what bytes come to: all parts of them, how many containers are open,
// whether the document is at its end, and the error.
type state struct {
	parts []any
	open  int
	done  bool
	e     api.Errno
}

// reading goes down through tokens, value by value, and does not know bytes.
type reading struct {
	tokens []lexer.Token
	depth  int
	parts  []any
	open   int
}

// model tells what tokens come to, from their beginning on.
func model(tokens []lexer.Token, depth int) state {
	r := reading{tokens: tokens, depth: depth}
	e := r.value()
	done := e == api.OK
	if done && len(r.tokens) > 0 {
		e = api.ErrForm
	}
	if e == api.ErrMore {
		e = api.OK
	}
	if e != api.OK {
		return state{parts: r.parts, e: e}
	}
	return state{parts: r.parts, open: r.open, done: done}
}

// next tells the kind of the token that comes next, 0 of none.
func (r *reading) next() byte {
	if len(r.tokens) == 0 {
		return 0
	}
	return r.tokens[0].Kind
}

// pass goes by a token, and tells its part.
func (r *reading) pass(part ...any) {
	r.tokens = r.tokens[1:]
	r.parts = append(r.parts, part...)
}

// must goes by a token that has to be there, and is no part.
func (r *reading) must(kind byte) api.Errno {
	switch r.next() {
	case 0:
		return api.ErrMore
	case kind:
		r.pass()
		return api.OK
	}
	return api.ErrForm
}

func (r *reading) value() api.Errno {
	switch r.next() {
	case 0:
		return api.ErrMore
	case '[':
		return r.container(false, ']')
	case '{':
		return r.container(true, '}')
	case 's':
		r.pass(api.Word(r.tokens[0].Text))
	case 'n':
		r.pass(r.tokens[0].Num)
	case 't':
		r.pass(true)
	case 'f':
		r.pass(false)
	case '0':
		r.pass(nil)
	default:
		return api.ErrForm
	}
	return api.OK
}

// container goes by one, from its begin to its end.
func (r *reading) container(isMap bool, last byte) api.Errno {
	if r.open >= r.depth {
		return api.ErrDeep
	}
	r.open++
	r.pass(api.Begin{Map: isMap, Count: -1})
	for n := 0; r.next() != last; n++ {
		if n > 0 {
			if e := r.must(','); e != api.OK {
				return e
			}
		}
		if isMap {
			if e := r.key(); e != api.OK {
				return e
			}
		}
		if e := r.value(); e != api.OK {
			return e
		}
	}
	r.pass(api.Close{})
	r.open--
	return api.OK
}

// key goes by a key and its colon.
func (r *reading) key() api.Errno {
	if r.next() == 's' {
		r.pass(api.Word(r.tokens[0].Text))
		return r.must(':')
	}
	if r.next() == 0 {
		return api.ErrMore
	}
	return api.ErrForm
}

// beside reads the same bytes as a Parser, and knows what must be told.
type beside struct {
	depth  int
	lexer  lexer.Lexer
	tokens []lexer.Token
	now    state
}

// step tells what must be told of the lexer's tokens, or of its error.
func (s *beside) step(more []lexer.Token, e api.Errno) ([]any, api.Errno) {
	switch {
	case s.now.e != api.OK:
		return nil, s.now.e
	case e != api.OK:
		s.now = state{e: e}
		return nil, e
	}
	had := len(s.now.parts)
	s.tokens = append(s.tokens, more...)
	s.now = model(s.tokens, s.depth)
	return s.now.parts[had:], s.now.e
}

// end tells what must be told at the end.
func (s *beside) end() ([]any, api.Errno) {
	if s.now.e != api.OK {
		return nil, s.now.e
	}
	parts, e := s.step(s.lexer.End())
	if e == api.OK && !s.now.done {
		e = api.ErrMore
		s.now = state{e: e}
	}
	return parts, e
}

// same tells whether lists are alike; one that has nothing may be nil.
func same(a, b []any) bool {
	return len(a) == 0 && len(b) == 0 || reflect.DeepEqual(a, b)
}

// asks holds an answer, and what is told behind it, against what is wanted.
func asks(t *testing.T, what string, p *jsonin.Parser, got []any, e api.Errno, s *beside, want []any, wantE api.Errno) {
	t.Helper()
	held := s.now.open + s.lexer.Held()
	if s.now.e != api.OK {
		held = 0
	}
	if !same(got, want) || e != wantE {
		t.Fatalf("%.200q: tells %v, %d; not %v, %d", what, got, e, want, wantE)
	}
	if p.Held() != held || p.Done() != s.now.done {
		t.Fatalf("%.200q: holds %d, done %v; not %d, %v", what, p.Held(), p.Done(), held, s.now.done)
	}
}

// agrees steps through bytes, and asks behind each what the model says; it
// tells the error at the end, and all parts.
func agrees(t *testing.T, s string, depth int) ([]any, api.Errno) {
	t.Helper()
	p, m := jsonin.New(depth), &beside{depth: depth}
	var all []any
	for k := range len(s) {
		want, wantE := m.step(m.lexer.Step(s[k]))
		got, e := p.Step(s[k])
		asks(t, s[:k+1], p, got, e, m, want, wantE)
		all = append(all, got...)
	}
	want, wantE := m.end()
	got, e := p.End()
	asks(t, "End behind "+s, p, got, e, m, want, wantE)
	all = append(all, got...)
	plain, allE := jsonin.All(s, depth)
	if !same(values(plain), all) || allE != e {
		t.Fatalf("All(%.200q) = %v, %d; not %v, %d", s, plain, allE, all, e)
	}
	return all, e
}

// values tells plain parts as values.
func values(l []api.Ev) []any {
	var all []any
	for _, e := range l {
		v, _ := event.Of(e)
		all = append(all, v)
	}
	return all
}

// draws tells a function that draws numbers from 0 on, below n.
func draws() func(n int) int {
	seed := uint32(11)
	return func(n int) int {
		seed = seed*1_664_525 + 1_013_904_223
		return int(seed>>8) % n
	}
}

// growing is a document that grows as text and as parts at once.
type growing struct {
	draw  func(n int) int
	text  strings.Builder
	parts []any
}

// put adds text, with blanks around it, and parts.
func (g *growing) put(text string, parts ...any) {
	blanks := []string{"", "", "", " ", "\n", "\t \r"}
	g.text.WriteString(blanks[g.draw(6)] + text + blanks[g.draw(6)])
	g.parts = append(g.parts, parts...)
}

// word adds a string, as a key or a value.
func (g *growing) word() {
	k := g.draw(6)
	text := []string{`""`, `"a"`, `"\u00e9\""`, `"[1,"`, `"}:"`, `"null"`}[k]
	g.put(text, api.Word([]string{"", "a", `é"`, "[1,", "}:", "null"}[k]))
}

// value adds one, with no more containers in one another than that.
func (g *growing) value(depth int) {
	kind := g.draw(9)
	if depth == 0 {
		kind = g.draw(6)
	}
	switch kind {
	case 0:
		g.put("null", nil)
	case 1:
		g.put("true", true)
	case 2:
		g.put("false", false)
	case 3:
		g.put("18446744073709551615", api.Whole{Mag: 1<<64 - 1})
	case 4:
		g.put("-12", api.Whole{Neg: true, Mag: 11})
	case 5:
		g.word()
	case 6:
		g.container("{", "}", true, depth-1)
	default:
		g.container("[", "]", false, depth-1)
	}
}

// container adds one, with up to three items.
func (g *growing) container(begin, end string, isMap bool, depth int) {
	g.put(begin, api.Begin{Map: isMap, Count: -1})
	for k := range g.draw(4) {
		if k > 0 {
			g.put(",")
		}
		if isMap {
			g.word()
			g.put(":")
		}
		g.value(depth)
	}
	g.put(end, api.Close{})
}
