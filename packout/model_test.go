package packout_test

import (
	"encoding/binary"
	"fmt"
	"math/big"
	"slices"
	"strings"
	"testing"

	"truchman/api"
	"truchman/event"
	"truchman/packin"
	"truchman/packout"
)

// node is a value as a tree: a container that is not at its end is open.
type node struct {
	v     any
	items []*node
	open  bool
}

// model keeps the document as a tree, and is written anew as a whole each time.
type model struct{ root *node }

// innermost is the open container into which the next part goes; nil of none.
func (m *model) innermost() *node {
	var last *node
	for n := m.root; n != nil && n.open; {
		last = n
		if len(n.items) == 0 {
			break
		}
		n = n.items[len(n.items)-1]
	}
	return last
}

func (m *model) done() bool { return m.root != nil && !m.root.open }

// step tells what must be told of a part.
func (m *model) step(v any) (string, api.Errno) {
	if e := m.wrong(v); e != api.OK {
		return "", e
	}
	had := m.text()
	in := m.innermost()
	_, begins := v.(api.Begin)
	switch {
	case v == any(api.Close{}):
		in.open = false
	case in == nil:
		m.root = &node{v: v, open: begins}
	default:
		in.items = append(in.items, &node{v: v, open: begins})
	}
	return strings.TrimPrefix(m.text(), had), api.OK
}

// wrong tells the error of a part.
func (m *model) wrong(v any) api.Errno {
	in := m.innermost()
	closes := isPart(v) && v == any(api.Close{})
	switch {
	case m.done(), !isPart(v):
		return api.ErrState
	case closes && (in == nil || len(in.items) != in.says()):
		return api.ErrState
	case closes:
		return api.OK
	case in != nil && len(in.items) == in.says():
		return api.ErrState
	}
	_, word := v.(api.Word)
	if in != nil && in.v.(api.Begin).Map && len(in.items)%2 == 0 && !word {
		return api.ErrKind
	}
	if !has(v) {
		return api.ErrRange
	}
	return api.OK
}

// says is how many parts a container says it has.
func (n *node) says() int {
	b := n.v.(api.Begin)
	if b.Map {
		return b.Count * 2
	}
	return b.Count
}

// text is all that is written of what has come.
func (m *model) text() string {
	if m.root == nil {
		return ""
	}
	return m.root.text()
}

func (n *node) text() string {
	s := scalar(n.v)
	for _, item := range n.items {
		s += item.text()
	}
	return s
}

// way is one of the ways to tell a number: in so many bytes behind a first one
// (of none the first byte and the number are one), from a least number to a
// most.
type way struct {
	first       int
	bytes       int
	least, most *big.Int
}

func power(n uint) *big.Int { return new(big.Int).Lsh(big.NewInt(1), n) }

func less(a *big.Int, b int64) *big.Int { return new(big.Int).Sub(a, big.NewInt(b)) }

// longer are the ways of so many bytes, each time twice as many, behind first
// bytes that follow one another.
func longer(first int, sizes ...int) []way {
	var ways []way
	for k, n := range sizes {
		ways = append(ways, way{first + k, n, new(big.Int), less(power(uint(8*n)), 1)})
	}
	return ways
}

// short is the way of numbers from 0 on that are in the first byte.
func short(first int, below int64) way {
	return way{first, 0, new(big.Int), big.NewInt(below - 1)}
}

// wholeWays are those of whole numbers.
func wholeWays() []way {
	ways := []way{short(0, 128), {256, 0, big.NewInt(-32), big.NewInt(-1)}}
	ways = append(ways, longer(0xcc, 1, 2, 4, 8)...)
	for k, n := range []int{1, 2, 4, 8} {
		half := power(uint(8*n - 1))
		ways = append(ways, way{0xd0 + k, n, new(big.Int).Neg(half), less(half, 1)})
	}
	return ways
}

func wordWays() []way { return append([]way{short(0xa0, 32)}, longer(0xd9, 1, 2, 4)...) }

func blobWays() []way { return longer(0xc4, 1, 2, 4) }

func beginWays(isMap bool) []way {
	if isMap {
		return append([]way{short(0x80, 16)}, longer(0xde, 2, 4)...)
	}
	return append([]way{short(0x90, 16)}, longer(0xdc, 2, 4)...)
}

// told tells a number by the first one of the shortest ways that it fits into;
// false, if there is none.
func told(ways []way, n *big.Int) (string, bool) {
	best, found := way{bytes: 99}, false
	for _, w := range ways {
		if w.least.Cmp(n) <= 0 && n.Cmp(w.most) <= 0 && w.bytes < best.bytes {
			best, found = w, true
		}
	}
	if !found {
		return "", false
	}
	if best.bytes == 0 {
		return string([]byte{byte(int64(best.first) + n.Int64())}), true
	}
	bits := new(big.Int).And(n, less(power(64), 1)).Uint64()
	all := binary.BigEndian.AppendUint64(nil, bits)
	return string([]byte{byte(best.first)}) + string(all[8-best.bytes:]), true
}

// number is what a Whole is.
func number(w api.Whole) *big.Int {
	n := new(big.Int).SetUint64(w.Mag)
	if w.Neg {
		return n.Not(n)
	}
	return n
}

// headOf is what is written ahead of a part's own bytes, of one that has a
// number; false, if there is none for that.
func headOf(v any) (string, bool) {
	switch x := v.(type) {
	case api.Whole:
		return told(wholeWays(), number(x))
	case api.Word:
		return told(wordWays(), big.NewInt(int64(len(x))))
	case api.Blob:
		return told(blobWays(), big.NewInt(int64(len(x))))
	case api.Begin:
		return told(beginWays(x.Map), big.NewInt(int64(x.Count)))
	}
	return "", true
}

// has tells whether MessagePack has a part.
func has(v any) bool {
	_, is := headOf(v)
	return is
}

// scalar is what is written of a part alone.
func scalar(v any) string {
	first, _ := headOf(v)
	switch x := v.(type) {
	case nil:
		return "\xc0"
	case bool:
		if x {
			return "\xc3"
		}
		return "\xc2"
	case api.Word:
		return first + string(x)
	case api.Blob:
		return first + string(x)
	}
	return first
}

// isPart tells whether a value is of a type of the parts.
func isPart(v any) bool {
	switch x := v.(type) {
	case nil, bool, api.Whole, api.Word, api.Blob, api.Close:
		return true
	case api.Begin:
		return x.Count >= -1
	}
	return false
}

// agrees steps a Writer and the model through parts, and asks of each that
// both tell the same; it tells all that was written.
func agrees(t *testing.T, parts ...any) string {
	t.Helper()
	var w packout.Writer
	var m model
	all := ""
	for k, v := range parts {
		want, wantE := m.step(v)
		got, e := w.Step(v)
		if got != want || e != wantE || w.Done() != m.done() {
			t.Fatalf("%s: part %d tells %x, %d, done %v; not %x, %d, %v", names(parts), k, got, e, w.Done(), want, wantE, m.done())
		}
		all += got
	}
	allAgrees(t, parts)
	return all
}

// allAgrees asks All of the same parts.
func allAgrees(t *testing.T, parts []any) {
	t.Helper()
	var m model
	var plain []api.Ev
	want, wantE := "", api.OK
	for _, v := range parts {
		e, is := event.Plain(v)
		if !is { // it has no plain one, but one that is refused
			e = api.Ev{Kind: 8}
		}
		plain = append(plain, e)
		if wantE != api.OK {
			continue
		}
		var s string
		s, wantE = m.step(v)
		if !is {
			wantE = api.ErrArg
		}
		want += s
	}
	if wantE == api.OK && !m.done() {
		wantE = api.ErrMore
	}
	was := slices.Clone(plain)
	if got, e := packout.All(plain...); got != want || e != wantE || !slices.Equal(was, plain) {
		t.Fatalf("All of %s: %x, %d; not %x, %d", names(parts), got, e, want, wantE)
	}
}

// comesBack asks that what was written is read as just the same parts.
func comesBack(t *testing.T, s string, parts []any) {
	t.Helper()
	back, e := packin.All(s, api.MaxDepth)
	if e != api.OK || len(back) != len(parts) {
		t.Fatalf("%x is read as %d parts, %d; not %d", s, len(back), e, len(parts))
	}
	for k, v := range parts {
		if got, _ := event.Of(back[k]); got != v {
			t.Fatalf("%x: part %d comes back as %#v, not %#v", s, k, got, v)
		}
	}
}

// names tells parts for a message.
func names(parts []any) string {
	s := fmt.Sprintf("%#v", parts)
	return s[:min(len(s), 600)]
}

// draws tells a function that draws numbers from 0 on, below n.
func draws(seed uint32) func(n int) int {
	return func(n int) int {
		seed = seed*1_664_525 + 1_013_904_223
		return int(seed>>8) % n
	}
}
