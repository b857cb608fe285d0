package jsonout_test

import (
	"encoding/base64"
	"encoding/json"
	"fmt"
	"math/big"
	"strings"
	"testing"

	"truchman/api"
	"truchman/event"
	"truchman/jsonout"
)

// node is a value as a tree: a container that is not at its end is open.
type node struct {
	v     any
	items []*node
	open  bool
}

// model keeps the document as a tree, and is written anew as a whole each time.
type model struct{ root *node }

// innermost is the open container into which the next part goes; nil of none.
func (m *model) innermost() *node {
	var last *node
	for n := m.root; n != nil && n.open; {
		last = n
		if len(n.items) == 0 {
			break
		}
		n = n.items[len(n.items)-1]
	}
	return last
}

func (m *model) done() bool { return m.root != nil && !m.root.open }

// step tells what must be told of a part.
func (m *model) step(v any) (string, api.Errno) {
	if e := m.wrong(v); e != api.OK {
		return "", e
	}
	had := m.text()
	in := m.innermost()
	_, begins := v.(api.Begin)
	switch {
	case v == any(api.Close{}):
		in.open = false
	case in == nil:
		m.root = &node{v: v, open: begins}
	default:
		in.items = append(in.items, &node{v: v, open: begins})
	}
	return strings.TrimPrefix(m.text(), had), api.OK
}

// wrong tells the error of a part.
func (m *model) wrong(v any) api.Errno {
	in := m.innermost()
	member := in != nil && in.v.(api.Begin).Map
	switch {
	case m.done(), !isPart(v):
		return api.ErrState
	case v == any(api.Close{}) && (in == nil || member && len(in.items)%2 == 1):
		return api.ErrState
	case v == any(api.Close{}):
		return api.OK
	}
	if _, word := v.(api.Word); member && len(in.items)%2 == 0 && !word {
		return api.ErrKind
	}
	return api.OK
}

// text is all that is written of what has come.
func (m *model) text() string {
	if m.root == nil {
		return ""
	}
	return m.root.text()
}

func (n *node) text() string {
	b, is := n.v.(api.Begin)
	if !is {
		return scalar(n.v)
	}
	ends := "[]"
	if b.Map {
		ends = "{}"
	}
	s := ends[:1]
	for k, item := range n.items {
		switch {
		case k == 0:
		case b.Map && k%2 == 1:
			s += ":"
		default:
			s += ","
		}
		s += item.text()
	}
	if n.open {
		return s
	}
	return s + ends[1:]
}

// scalar is what the library writes of a value: of texts that have nothing
// that it escapes in a way of its own.
func scalar(v any) string {
	switch x := v.(type) {
	case api.Whole:
		n := new(big.Int).SetUint64(x.Mag)
		if x.Neg {
			n.Not(n)
		}
		return n.String()
	case api.Word:
		inside, _ := json.Marshal(string(x))
		return string(inside)
	case api.Blob:
		return `"` + base64.RawURLEncoding.EncodeToString([]byte(x)) + `"`
	}
	s, _ := json.Marshal(v)
	return string(s)
}

// isPart tells whether a value is of a type of the parts.
func isPart(v any) bool {
	switch x := v.(type) {
	case nil, bool, api.Whole, api.Word, api.Blob, api.Close:
		return true
	case api.Begin:
		return x.Count >= -1
	}
	return false
}

// agrees steps a Writer and the model through parts, and asks of each that
// both tell the same; it tells all that was written.
func agrees(t *testing.T, parts ...any) string {
	t.Helper()
	var w jsonout.Writer
	var m model
	all := ""
	for k, v := range parts {
		want, wantE := m.step(v)
		got, e := w.Step(v)
		if got != want || e != wantE || w.Done() != m.done() {
			t.Fatalf("%s: part %d tells %q, %d, done %v; not %q, %d, %v", names(parts), k, got, e, w.Done(), want, wantE, m.done())
		}
		all += got
	}
	if w.Done() != json.Valid([]byte(all)) {
		t.Fatalf("%s: %q, done %v", names(parts), all, w.Done())
	}
	allAgrees(t, parts)
	return all
}

// allAgrees asks All of the same parts.
func allAgrees(t *testing.T, parts []any) {
	t.Helper()
	var m model
	var plain []api.Ev
	want, wantE := "", api.OK
	for _, v := range parts {
		e, is := event.Plain(v)
		if !is { // it has no plain one, but one that is refused
			e = api.Ev{Kind: 8}
		}
		plain = append(plain, e)
		if wantE != api.OK {
			continue
		}
		var s string
		s, wantE = m.step(v)
		if !is {
			wantE = api.ErrArg
		}
		want += s
	}
	if wantE == api.OK && !m.done() {
		wantE = api.ErrMore
	}
	if got, e := jsonout.All(plain...); got != want || e != wantE {
		t.Fatalf("All of %s: %q, %d; not %q, %d", names(parts), got, e, want, wantE)
	}
}

// names tells parts for a message.
func names(parts []any) string {
	s := fmt.Sprintf("%#v", parts)
	return s[:min(len(s), 600)]
}

// draws tells a function that draws numbers from 0 on, below n.
func draws(seed uint32) func(n int) int {
	return func(n int) int {
		seed = seed*1_664_525 + 1_013_904_223
		return int(seed>>8) % n
	}
}
