package cborout_test

import (
	"encoding/binary"
	"fmt"
	"math/big"
	"slices"
	"strings"
	"testing"

	"truchman/api"
	"truchman/cborin"
	"truchman/cborout"
	"truchman/event"
)

// node is a value as a tree: a container that is not at its end is open.
type node struct {
	v     any
	items []*node
	open  bool
}

// model keeps the document as a tree, and is written anew as a whole each time.
type model struct{ root *node }

// innermost is the open container into which the next part goes; nil of none.
func (m *model) innermost() *node {
	var last *node
	for n := m.root; n != nil && n.open; {
		last = n
		if len(n.items) == 0 {
			break
		}
		n = n.items[len(n.items)-1]
	}
	return last
}

func (m *model) done() bool { return m.root != nil && !m.root.open }

// step tells what must be told of a part.
func (m *model) step(v any) (string, api.Errno) {
	if e := m.wrong(v); e != api.OK {
		return "", e
	}
	had := m.text()
	in := m.innermost()
	_, begins := v.(api.Begin)
	switch {
	case v == any(api.Close{}):
		in.open = false
	case in == nil:
		m.root = &node{v: v, open: begins}
	default:
		in.items = append(in.items, &node{v: v, open: begins})
	}
	return strings.TrimPrefix(m.text(), had), api.OK
}

// wrong tells the error of a part.
func (m *model) wrong(v any) api.Errno {
	in := m.innermost()
	member := in != nil && in.v.(api.Begin).Map
	closes := isPart(v) && v == any(api.Close{})
	switch {
	case m.done(), !isPart(v):
		return api.ErrState
	case closes && (in == nil || member && len(in.items)%2 == 1 || in.lacks() != 0):
		return api.ErrState
	case closes:
		return api.OK
	case in != nil && in.sure() && in.lacks() == 0:
		return api.ErrState
	}
	if _, word := v.(api.Word); member && len(in.items)%2 == 0 && !word {
		return api.ErrKind
	}
	return api.OK
}

// sure tells whether a container says its count.
func (n *node) sure() bool { return n.v.(api.Begin).Count >= 0 }

// lacks is above 0, if a container lacks parts that its count says; 0, if it has
// all of them, or says none. How many it says may be no int.
func (n *node) lacks() int {
	if !n.sure() {
		return 0
	}
	b := n.v.(api.Begin)
	says := big.NewInt(int64(b.Count))
	if b.Map {
		says.Lsh(says, 1)
	}
	return says.Cmp(big.NewInt(int64(len(n.items))))
}

// text is all that is written of what has come.
func (m *model) text() string {
	if m.root == nil {
		return ""
	}
	return m.root.text()
}

func (n *node) text() string {
	b, is := n.v.(api.Begin)
	if !is {
		return scalar(n.v)
	}
	major := byte(4)
	if b.Map {
		major = 5
	}
	s := string([]byte{major<<5 | 31})
	if n.sure() {
		s = headOf(major, uint64(b.Count))
	}
	for _, item := range n.items {
		s += item.text()
	}
	if n.sure() || n.open {
		return s
	}
	return s + "\xff"
}

// headOf is the shortest head of a number.
func headOf(major byte, v uint64) string {
	b := []byte{major << 5}
	switch {
	case v <= 23:
		b[0] |= byte(v)
	case v <= 0xff:
		b = append(b, byte(v))
		b[0] |= 24
	case v <= 0xffff:
		b = binary.BigEndian.AppendUint16(b, uint16(v))
		b[0] |= 25
	case v <= 0xffff_ffff:
		b = binary.BigEndian.AppendUint32(b, uint32(v))
		b[0] |= 26
	default:
		b = binary.BigEndian.AppendUint64(b, v)
		b[0] |= 27
	}
	return string(b)
}

// scalar is what is written of a value.
func scalar(v any) string {
	switch x := v.(type) {
	case bool:
		if x {
			return "\xf5"
		}
		return "\xf4"
	case api.Whole:
		if x.Neg {
			return headOf(1, x.Mag)
		}
		return headOf(0, x.Mag)
	case api.Word:
		return headOf(3, uint64(len(x))) + string(x)
	case api.Blob:
		return headOf(2, uint64(len(x))) + string(x)
	}
	return "\xf6"
}

// isPart tells whether a value is of a type of the parts.
func isPart(v any) bool {
	switch x := v.(type) {
	case nil, bool, api.Whole, api.Word, api.Blob, api.Close:
		return true
	case api.Begin:
		return x.Count >= -1
	}
	return false
}

// agrees steps a Writer and the model through parts, and asks of each that
// both tell the same; it tells all that was written.
func agrees(t *testing.T, parts ...any) string {
	t.Helper()
	var w cborout.Writer
	var m model
	all := ""
	for k, v := range parts {
		want, wantE := m.step(v)
		got, e := w.Step(v)
		if got != want || e != wantE || w.Done() != m.done() {
			t.Fatalf("%s: part %d tells %x, %d, done %v; not %x, %d, %v", names(parts), k, got, e, w.Done(), want, wantE, m.done())
		}
		all += got
	}
	allAgrees(t, parts)
	return all
}

// allAgrees asks All of the same parts.
func allAgrees(t *testing.T, parts []any) {
	t.Helper()
	var m model
	var plain []api.Ev
	want, wantE := "", api.OK
	for _, v := range parts {
		e, is := event.Plain(v)
		if !is { // it has no plain one, but one that is refused
			e = api.Ev{Kind: 8}
		}
		plain = append(plain, e)
		if wantE != api.OK {
			continue
		}
		var s string
		s, wantE = m.step(v)
		if !is {
			wantE = api.ErrArg
		}
		want += s
	}
	if wantE == api.OK && !m.done() {
		wantE = api.ErrMore
	}
	was := slices.Clone(plain)
	if got, e := cborout.All(plain...); got != want || e != wantE || !slices.Equal(was, plain) {
		t.Fatalf("All of %s: %x, %d; not %x, %d", names(parts), got, e, want, wantE)
	}
}

// comesBack asks that what was written is read as just the same parts.
func comesBack(t *testing.T, s string, parts []any) {
	t.Helper()
	back, e := cborin.All(s, api.MaxDepth)
	if e != api.OK || len(back) != len(parts) {
		t.Fatalf("%x is read as %d parts, %d; not %d", s, len(back), e, len(parts))
	}
	for k, v := range parts {
		if got, _ := event.Of(back[k]); got != v {
			t.Fatalf("%x: part %d comes back as %#v, not %#v", s, k, got, v)
		}
	}
}

// names tells parts for a message.
func names(parts []any) string {
	s := fmt.Sprintf("%#v", parts)
	return s[:min(len(s), 600)]
}

// draws tells a function that draws numbers from 0 on, below n.
func draws(seed uint32) func(n int) int {
	return func(n int) int {
		seed = seed*1_664_525 + 1_013_904_223
		return int(seed>>8) % n
	}
}
