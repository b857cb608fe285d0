package packin_test

import (
	"math/big"
	"reflect"
	"testing"
	"unicode/utf8"

	"truchman/api"
	"truchman/event"
	"truchman/packin"
)

// state is what bytes come to: all parts of them, how much is held, whether the
// document is at its end, and the error.
type state struct {
	parts []any
	held  int
	done  bool
	e     api.Errno
}

// reading goes down through bytes, item by item, each time from the beginning
// on.
type reading struct {
	b     string
	depth int
	parts []any
	open  int
	text  int // bytes of the text that is being read
}

// model tells what bytes come to.
func model(b string, depth int) state {
	r := reading{b: b, depth: depth}
	e := r.item(false)
	done := e == api.OK
	if done && len(r.b) > 0 {
		e = api.ErrForm
	}
	if e == api.ErrMore {
		e = api.OK
	}
	if e != api.OK {
		return state{parts: r.parts, e: e}
	}
	return state{parts: r.parts, held: r.open + r.text, done: done}
}

// cut takes the next n bytes, or all that are left of them.
func (r *reading) cut(n int) (string, bool) {
	has := min(n, len(r.b))
	s := r.b[:has]
	r.b = r.b[has:]
	return s, has == n
}

// number takes one of n bytes: not always a uint64 for what is to be done with
// it.
func (r *reading) number(n int) (*big.Int, bool) {
	s, all := r.cut(n)
	return new(big.Int).SetBytes([]byte(s)), all
}

// The names of first bytes, each as the format says it.
const (
	fix  = "fix"
	neg  = "negfix"
	dict = "map"
	arr  = "array"
	str  = "str"
	bin  = "bin"
	unit = "uint"
	sint = "int"
	ext  = "ext"
	flt  = "float"
	nul  = "nil"
	yes  = "true"
	not  = "false"
	bad  = "never"
)

// named tells a first byte's name, and how many bytes its number has; -1: it is
// in the byte itself.
func named(b byte) (string, int) {
	switch {
	case b <= 0x7f:
		return fix, -1
	case b <= 0x8f:
		return dict, -1
	case b <= 0x9f:
		return arr, -1
	case b <= 0xbf:
		return str, -1
	case b >= 0xe0:
		return neg, -1
	}
	n := []string{
		nul, bad, not, yes, bin, bin, bin, ext, ext, ext, flt, flt, unit, unit, unit, unit,
		sint, sint, sint, sint, ext, ext, ext, ext, ext, str, str, str, arr, arr, dict, dict,
	}[b-0xc0]
	size := []int{
		0, 0, 0, 0, 1, 2, 4, 0, 0, 0, 0, 0, 1, 2, 4, 8,
		1, 2, 4, 8, 0, 0, 0, 0, 0, 1, 2, 4, 2, 4, 2, 4,
	}[b-0xc0]
	return n, size
}

// item goes by one, at a key's place or not.
func (r *reading) item(atKey bool) api.Errno {
	first, is := r.cut(1)
	if !is {
		return api.ErrMore
	}
	name, size := named(first[0])
	switch {
	case name == bad:
		return api.ErrForm
	case atKey && name != str, name == ext:
		return api.ErrKind
	case name == flt:
		return api.ErrFloat
	case (name == arr || name == dict) && r.open == r.depth:
		return api.ErrDeep
	}
	n, is := big.NewInt(int64(first[0])), true
	if size >= 0 {
		n, is = r.number(size)
	}
	if !is {
		return api.ErrMore
	}
	switch name {
	case str:
		if size < 0 {
			n.Sub(n, big.NewInt(0xa0))
		}
		return r.words(true, n)
	case bin:
		return r.words(false, n)
	case arr, dict:
		if size < 0 {
			n.And(n, big.NewInt(15))
		}
		return r.container(name == dict, n)
	case neg, sint:
		r.signed(n, max(size, 1))
	default:
		r.parts = append(r.parts, value(name, n))
	}
	return api.OK
}

// value tells the part of what is neither signed nor a text or container.
func value(name string, n *big.Int) any {
	switch name {
	case nul:
		return nil
	case yes, not:
		return name == yes
	}
	return api.Whole{Mag: n.Uint64()}
}

// signed adds a number of so many bytes of two's complement.
func (r *reading) signed(n *big.Int, size int) {
	if n.Bit(8*size-1) == 0 {
		r.parts = append(r.parts, api.Whole{Mag: n.Uint64()})
		return
	}
	n.Sub(n, new(big.Int).Lsh(big.NewInt(1), uint(8*size)))
	n.Sub(big.NewInt(-1), n)
	r.parts = append(r.parts, api.Whole{Neg: true, Mag: n.Uint64()})
}

// words goes by a text or bytes.
func (r *reading) words(isText bool, n *big.Int) api.Errno {
	if n.Cmp(big.NewInt(200)) > 0 {
		return api.ErrLarge
	}
	s, is := r.cut(int(n.Int64()))
	switch {
	case isText && !begins(s), isText && is && !utf8.ValidString(s):
		return api.ErrUtf
	case !is:
		r.text = len(s)
		return api.ErrMore
	}
	if isText {
		r.parts = append(r.parts, api.Word(s))
	} else {
		r.parts = append(r.parts, api.Blob(s))
	}
	return api.OK
}

// begins tells whether bytes are the beginning of UTF-8: what is behind their
// whole runes is the beginning of one.
func begins(s string) bool {
	for len(s) > 0 && utf8.FullRuneInString(s) {
		r, n := utf8.DecodeRuneInString(s)
		if r == utf8.RuneError && n < 2 {
			return false
		}
		s = s[n:]
	}
	return true
}

// container goes by one, from behind its count to its end.
func (r *reading) container(isMap bool, n *big.Int) api.Errno {
	if n.Cmp(big.NewInt(1_000_000)) > 0 {
		return api.ErrRange
	}
	count := int(n.Int64())
	r.parts = append(r.parts, api.Begin{Map: isMap, Count: count})
	r.open++
	for range count {
		if isMap {
			if e := r.item(true); e != api.OK {
				return e
			}
		}
		if e := r.item(false); e != api.OK {
			return e
		}
	}
	r.parts = append(r.parts, api.Close{})
	r.open--
	return api.OK
}

// same tells whether lists are alike; one that has nothing may be nil.
func same(a, b []any) bool {
	return len(a) == 0 && len(b) == 0 || reflect.DeepEqual(a, b)
}

// asks holds what is told behind a Step against a state.
func asks(t *testing.T, what string, p *packin.Parser, now state) {
	t.Helper()
	end := now.e
	if end == api.OK && !now.done {
		end = api.ErrMore
	}
	for range 2 {
		if p.Held() != now.held || p.Done() != now.done || p.End() != end {
			t.Fatalf("%.200q: holds %d, done %v, its End %d; not %d, %v, %d", what, p.Held(), p.Done(), p.End(), now.held, now.done, end)
		}
	}
}

// agrees steps through bytes, and asks behind each what the model says; it
// tells all parts, and the error at the end.
func agrees(t *testing.T, s string, depth int) ([]any, api.Errno) {
	t.Helper()
	p, had := packin.New(depth), state{}
	asks(t, "nothing", p, had)
	var all []any
	for k := range len(s) {
		now := model(s[:k+1], depth)
		if had.e != api.OK {
			now = state{parts: had.parts, e: had.e}
		}
		got, e := p.Step(s[k])
		if want := now.parts[len(had.parts):]; !same(got, want) || e != now.e {
			t.Fatalf("%.200q: tells %v, %d; not %v, %d", s[:k+1], got, e, want, now.e)
		}
		asks(t, s[:k+1], p, now)
		all, had = append(all, got...), now
	}
	end := p.End()
	plain, e := packin.All(s, depth)
	if !same(values(plain), all) || e != end {
		t.Fatalf("All(%.200q) = %v, %d; not %v, %d", s, plain, e, all, end)
	}
	return all, end
}

// values tells plain parts as values.
func values(l []api.Ev) []any {
	var all []any
	for _, e := range l {
		v, _ := event.Of(e)
		all = append(all, v)
	}
	return all
}

// draws tells a function that draws numbers from 0 on, below n.
func draws() func(n int) int {
	seed := uint32(15)
	return func(n int) int {
		seed = seed*1_664_525 + 1_013_904_223
		return int(seed>>8) % n
	}
}

// growing is a document that grows as bytes and as parts at once.
type growing struct {
	draw  func(n int) int
	bytes string
	parts []any
}

// byte adds one.
func (g *growing) byte(b int) {
	g.bytes += string([]byte{byte(b)})
}

// number adds a first byte from that one on, and the number behind it, of as
// many bytes as it takes, or of twice or four times as many.
func (g *growing) number(first, least, most int, n uint64) {
	size := least
	for size < most && (size < 8 && n>>(8*size) != 0 || g.draw(3) == 0) {
		size *= 2
		first++
	}
	g.byte(first)
	for k := size - 1; k >= 0; k-- {
		g.byte(int(n >> (8 * k) & 255))
	}
}

// whole adds a number that is not below zero.
func (g *growing) whole() {
	n := []uint64{0, 1, 32, 127, 128, 255, 256, 65_535, 65_536, 1<<32 - 1, 1 << 32, 1<<63 - 1, 1 << 63, 1<<64 - 1}[g.draw(14)]
	if n < 128 && g.draw(2) == 0 {
		g.byte(int(n))
	} else {
		g.number(0xcc, 1, 8, n)
	}
	g.parts = append(g.parts, api.Whole{Mag: n})
}

// signed adds a number in two's complement, of as many bytes as are drawn.
func (g *growing) signed() {
	size := g.draw(4)
	bits := 8 << size
	mag := []uint64{0, 1, 31, 1<<(bits-1) - 1, 1 << (bits - 2)}[g.draw(5)]
	neg := g.draw(2) == 1
	n := mag
	if neg {
		n = ^mag
	}
	if neg && mag < 32 && g.draw(2) == 0 {
		g.byte(255 - int(mag))
	} else {
		g.byte(0xd0 + size)
		for k := bits - 8; k >= 0; k -= 8 {
			g.byte(int(n >> k & 255))
		}
	}
	g.parts = append(g.parts, api.Whole{Neg: neg, Mag: mag})
}

// text adds one.
func (g *growing) text() {
	s := []string{"", "a", "é", "\U0001f600", "of some length: 24 bytes", "\x00\x7f"}[g.draw(6)]
	if len(s) < 32 && g.draw(2) == 0 {
		g.byte(0xa0 + len(s))
	} else {
		g.number(0xd9, 1, 4, uint64(len(s)))
	}
	g.bytes += s
	g.parts = append(g.parts, api.Word(s))
}

// blob adds bytes.
func (g *growing) blob() {
	s := []string{"", "\xff", "\xc1\x91", "of some length"}[g.draw(4)]
	g.number(0xc4, 1, 4, uint64(len(s)))
	g.bytes += s
	g.parts = append(g.parts, api.Blob(s))
}

// value adds one, with no more containers in one another than that.
func (g *growing) value(depth int) {
	kind := g.draw(12)
	if depth == 0 {
		kind = g.draw(5)
	}
	switch kind {
	case 0:
		k := g.draw(3)
		g.byte([]int{0xc2, 0xc3, 0xc0}[k])
		g.parts = append(g.parts, []any{false, true, nil}[k])
	case 1:
		g.whole()
	case 2:
		g.signed()
	case 3:
		g.text()
	case 4:
		g.blob()
	default:
		g.container(kind%2 == 0, depth-1)
	}
}

// container adds one, with up to three items, or pairs.
func (g *growing) container(isMap bool, depth int) {
	n, few, many := g.draw(4), 0x90, 0xdc
	if isMap {
		few, many = 0x80, 0xde
	}
	if g.draw(2) == 0 {
		g.byte(few + n)
	} else {
		g.number(many, 2, 4, uint64(n))
	}
	g.parts = append(g.parts, api.Begin{Map: isMap, Count: n})
	for range n {
		if isMap {
			g.text()
		}
		g.value(depth)
	}
	g.parts = append(g.parts, api.Close{})
}
