package cborin_test

import (
	"math/big"
	"reflect"
	"testing"
	"unicode/utf8"

	"truchman/api"
	"truchman/cborin"
	"truchman/event"
)

// state is what bytes come to: all parts of them, how much is held, whether the
// document is at its end, and the error.
type state struct {
	parts []any
	held  int
	done  bool
	e     api.Errno
}

// reading goes down through bytes, item by item, each time from the beginning
// on.
type reading struct {
	b     string
	depth int
	parts []any
	open  int
	text  int // bytes of the text that is being read
}

// model tells what bytes come to.
func model(b string, depth int) state {
	r := reading{b: b, depth: depth}
	e := r.item(false, false)
	done := e == api.OK
	if done && len(r.b) > 0 {
		e = api.ErrForm
	}
	if e == api.ErrMore {
		e = api.OK
	}
	if e != api.OK {
		return state{parts: r.parts, e: e}
	}
	return state{parts: r.parts, held: r.open + r.text, done: done}
}

// cut takes the next n bytes, or all that are left of them.
func (r *reading) cut(n int) (string, bool) {
	has := min(n, len(r.b))
	s := r.b[:has]
	r.b = r.b[has:]
	return s, has == n
}

// number takes what is behind a first byte: not always a uint64 for what is to
// be done with it.
func (r *reading) number(low int) (*big.Int, bool) {
	if low < 24 {
		return big.NewInt(int64(low)), true
	}
	s, all := r.cut([]int{1, 2, 4, 8}[low-24])
	return new(big.Int).SetBytes([]byte(s)), all
}

// formless tells whether RFC 8949 has no such first byte.
func formless(major, low int) bool {
	return low >= 28 && low <= 30 || low == 31 && (major == 0 || major == 1 || major == 6)
}

// item goes by one: at a key's place, or where a break may end its container
// (which is then told as -1).
func (r *reading) item(atKey, mayBreak bool) api.Errno {
	first, is := r.cut(1)
	if !is {
		return api.ErrMore
	}
	major, low := int(first[0])/32, int(first[0])%32
	switch {
	case formless(major, low), first == "\xff" && !mayBreak:
		return api.ErrForm
	case first == "\xff":
		return -1
	case atKey && major != 3, major == 6:
		return api.ErrKind
	case major == 7:
		return r.simple(low)
	case major >= 4 && r.open == r.depth:
		return api.ErrDeep
	case major >= 4:
		return r.container(major == 5, low)
	case major >= 2:
		return r.words(major, low)
	}
	return r.whole(major == 1, low)
}

func (r *reading) simple(low int) api.Errno {
	switch {
	case low == 20, low == 21:
		r.parts = append(r.parts, low == 21)
	case low == 22:
		r.parts = append(r.parts, nil)
	case low > 24 && low < 28:
		return api.ErrFloat
	default:
		return api.ErrKind
	}
	return api.OK
}

func (r *reading) whole(neg bool, low int) api.Errno {
	n, is := r.number(low)
	if !is {
		return api.ErrMore
	}
	r.parts = append(r.parts, api.Whole{Neg: neg, Mag: n.Uint64()})
	return api.OK
}

// words goes by a text or bytes.
func (r *reading) words(major, low int) api.Errno {
	var all string
	e := api.OK
	if low == 31 {
		for e == api.OK {
			e = r.chunk(major, &all)
		}
	} else {
		e = r.bytes(major, low, &all)
	}
	r.text = len(all)
	if e != api.OK && e != -1 {
		return e
	}
	if r.text = 0; major == 3 {
		r.parts = append(r.parts, api.Word(all))
	} else {
		r.parts = append(r.parts, api.Blob(all))
	}
	return api.OK
}

// chunk goes by one; -1: by a break.
func (r *reading) chunk(major int, all *string) api.Errno {
	first, is := r.cut(1)
	if !is {
		return api.ErrMore
	}
	low := int(first[0]) % 32
	switch {
	case first == "\xff":
		return -1
	case int(first[0])/32 != major, formless(major, low), low == 31:
		return api.ErrForm
	}
	return r.bytes(major, low, all)
}

// bytes goes by what has a length, and adds those that are there to all.
func (r *reading) bytes(major, low int, all *string) api.Errno {
	n, is := r.number(low)
	if !is {
		return api.ErrMore
	}
	if n.Add(n, big.NewInt(int64(len(*all)))).Cmp(big.NewInt(200)) > 0 {
		return api.ErrLarge
	}
	s, is := r.cut(int(n.Int64()) - len(*all))
	*all += s
	switch {
	case major == 3 && !begins(s), major == 3 && is && !utf8.ValidString(s):
		return api.ErrUtf
	case !is:
		return api.ErrMore
	}
	return api.OK
}

// begins tells whether bytes are the beginning of UTF-8: what is behind their
// whole runes is the beginning of one.
func begins(s string) bool {
	for len(s) > 0 && utf8.FullRuneInString(s) {
		r, n := utf8.DecodeRuneInString(s)
		if r == utf8.RuneError && n < 2 {
			return false
		}
		s = s[n:]
	}
	return true
}

// container goes by one, from its count to its end.
func (r *reading) container(isMap bool, low int) api.Errno {
	count := -1
	if low != 31 {
		n, is := r.number(low)
		if !is {
			return api.ErrMore
		}
		if n.Cmp(big.NewInt(1_000_000)) > 0 {
			return api.ErrRange
		}
		count = int(n.Int64())
	}
	r.parts = append(r.parts, api.Begin{Map: isMap, Count: count})
	r.open++
	e := r.items(isMap, count)
	if e == api.OK {
		r.parts = append(r.parts, api.Close{})
		r.open--
	}
	return e
}

// items goes by all of a container.
func (r *reading) items(isMap bool, count int) api.Errno {
	for n := 0; n != count; n++ {
		if isMap {
			switch e := r.item(true, count < 0); e {
			case -1:
				return api.OK
			case api.OK:
			default:
				return e
			}
		}
		switch e := r.item(false, count < 0 && !isMap); e {
		case -1:
			return api.OK
		case api.OK:
		default:
			return e
		}
	}
	return api.OK
}

// same tells whether lists are alike; one that has nothing may be nil.
func same(a, b []any) bool {
	return len(a) == 0 && len(b) == 0 || reflect.DeepEqual(a, b)
}

// asks holds what is told behind a Step against a state.
func asks(t *testing.T, what string, p *cborin.Parser, now state) {
	t.Helper()
	end := now.e
	if end == api.OK && !now.done {
		end = api.ErrMore
	}
	for range 2 {
		if p.Held() != now.held || p.Done() != now.done || p.End() != end {
			t.Fatalf("%.200q: holds %d, done %v, its End %d; not %d, %v, %d", what, p.Held(), p.Done(), p.End(), now.held, now.done, end)
		}
	}
}

// agrees steps through bytes, and asks behind each what the model says; it
// tells all parts, and the error at the end.
func agrees(t *testing.T, s string, depth int) ([]any, api.Errno) {
	t.Helper()
	p, had := cborin.New(depth), state{}
	asks(t, "nothing", p, had)
	var all []any
	for k := range len(s) {
		now := model(s[:k+1], depth)
		if had.e != api.OK {
			now = state{parts: had.parts, e: had.e}
		}
		got, e := p.Step(s[k])
		if want := now.parts[len(had.parts):]; !same(got, want) || e != now.e {
			t.Fatalf("%.200q: tells %v, %d; not %v, %d", s[:k+1], got, e, want, now.e)
		}
		asks(t, s[:k+1], p, now)
		all, had = append(all, got...), now
	}
	end := p.End()
	plain, e := cborin.All(s, depth)
	if !same(values(plain), all) || e != end {
		t.Fatalf("All(%.200q) = %v, %d; not %v, %d", s, plain, e, all, end)
	}
	return all, end
}

// values tells plain parts as values.
func values(l []api.Ev) []any {
	var all []any
	for _, e := range l {
		v, _ := event.Of(e)
		all = append(all, v)
	}
	return all
}

// draws tells a function that draws numbers from 0 on, below n.
func draws() func(n int) int {
	seed := uint32(13)
	return func(n int) int {
		seed = seed*1_664_525 + 1_013_904_223
		return int(seed>>8) % n
	}
}

// growing is a document that grows as bytes and as parts at once.
type growing struct {
	draw  func(n int) int
	bytes string
	parts []any
}

// head adds one: as short as may be, or in one of the longer forms.
func (g *growing) head(major int, n uint64) {
	form := 3 - g.draw(4)
	for forms := []uint64{1 << 8, 1 << 16, 1 << 32}; form < 3 && n >= forms[form]; {
		form++
	}
	if n < 24 && g.draw(3) > 0 {
		g.bytes += string([]byte{byte(major<<5) | byte(n)})
		return
	}
	g.bytes += string([]byte{byte(major<<5) | byte(24+form)})
	for k := 1<<form - 1; k >= 0; k-- {
		g.bytes += string([]byte{byte(n >> (8 * k))})
	}
}

// whole adds a number.
func (g *growing) whole() {
	n := []uint64{0, 1, 23, 24, 255, 256, 65_535, 65_536, 1<<32 - 1, 1 << 32, 1<<64 - 1}[g.draw(11)]
	neg := g.draw(2)
	g.head(neg, n)
	g.parts = append(g.parts, api.Whole{Neg: neg == 1, Mag: n})
}

// words adds a text or bytes, in one piece or in chunks.
func (g *growing) words(major int) {
	pieces := []string{"", "a", "é", "\U0001f600", "of some length: 24 bytes", "\x00\x7f"}
	if major == 2 {
		pieces[1], pieces[2] = "\xff", "\x5f\xff"
	}
	all := ""
	if g.draw(3) > 0 {
		all = pieces[g.draw(6)]
		g.head(major, uint64(len(all)))
		g.bytes += all
	} else {
		g.bytes += string([]byte{byte(major<<5) | 31})
		for range g.draw(4) {
			piece := pieces[g.draw(6)]
			g.head(major, uint64(len(piece)))
			g.bytes += piece
			all += piece
		}
		g.bytes += "\xff"
	}
	if major == 3 {
		g.parts = append(g.parts, api.Word(all))
	} else {
		g.parts = append(g.parts, api.Blob(all))
	}
}

// value adds one, with no more containers in one another than that.
func (g *growing) value(depth int) {
	kind := g.draw(9)
	if depth == 0 {
		kind = g.draw(4)
	}
	switch kind {
	case 0:
		k := g.draw(3)
		g.bytes += []string{"\xf4", "\xf5", "\xf6"}[k]
		g.parts = append(g.parts, []any{false, true, nil}[k])
	case 1:
		g.whole()
	case 2, 3:
		g.words(kind)
	default:
		g.container(4+kind%2, depth-1)
	}
}

// container adds one, with up to three items, or pairs.
func (g *growing) container(major, depth int) {
	n, open := g.draw(4), g.draw(2) == 0
	begin := api.Begin{Map: major == 5, Count: n}
	if open {
		begin.Count = -1
		g.bytes += string([]byte{byte(major<<5) | 31})
	} else {
		g.head(major, uint64(n))
	}
	g.parts = append(g.parts, begin)
	for range n {
		if major == 5 {
			g.words(3)
		}
		g.value(depth)
	}
	if open {
		g.bytes += "\xff"
	}
	g.parts = append(g.parts, api.Close{})
}
