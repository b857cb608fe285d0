package stage_test

import (
	"fmt"
	"slices"
	"strings"
	"testing"

	"truchman/api"
	"truchman/stage"
)

// told is what is known behind one Step.
type told struct {
	parts []any
	e     api.Errno
	held  int
	empty bool
}

func (a told) same(b told) bool {
	return same(a.parts, b.parts) && a.e == b.e && a.held == b.held && a.empty == b.empty
}

func (a told) String() string {
	return fmt.Sprintf("%s, %d, holds %d, empty %v", names(a.parts), a.e, a.held, a.empty)
}

// same holds lists of parts against each other; nil and empty ones are one.
func same(a, b []any) bool { return slices.Equal(a, b) }

// model tells what each Step of a way must tell. It has the whole way before
// it, and looks ahead for the end of what is held.
func model(limit int, way []any) []told {
	if limit < 0 {
		limit = 0
	} else if limit > 2000 {
		limit = 2000
	}
	var all []told
	for at := 0; at < len(way); {
		v := way[at]
		switch {
		case sizeOf(v) == 0:
			all = append(all, told{e: api.ErrState, empty: true})
			at++
		case !isOpen(v):
			all = append(all, told{parts: []any{v}, empty: true})
			at++
		default:
			end := endOf(way, at)
			all = append(all, within(limit, way[at:end])...)
			if all[len(all)-1].e == api.ErrStage {
				return slices.Concat(all, slices.Repeat([]told{{e: api.ErrStage}}, len(way)-len(all)))
			}
			if end < len(way) {
				all = append(all, told{parts: counted(way[at : end+1]), empty: true})
			}
			at = end + 1
		}
	}
	return all
}

// within tells what Steps tell of parts that are held, as far as there is room.
func within(limit int, parts []any) []told {
	var all []told
	size := 0
	for _, v := range parts {
		size += sizeOf(v)
		switch {
		case size > limit:
			return append(all, told{e: api.ErrStage})
		case sizeOf(v) == 0:
			all = append(all, told{e: api.ErrState, held: size})
		default:
			all = append(all, told{held: size})
		}
	}
	return all
}

// counted tells a container, without what is no part in it, each one of no
// count with its own.
func counted(parts []any) []any {
	var all []any
	for at, v := range parts {
		if sizeOf(v) == 0 {
			continue
		}
		if isOpen(v) {
			b := v.(api.Begin)
			b.Count = partsIn(parts[at+1 : endOf(parts, at)])
			if b.Map {
				b.Count = (b.Count - b.Count%2) / 2
			}
			v = b
		}
		all = append(all, v)
	}
	return all
}

// partsIn tells how many parts stand in no other container.
func partsIn(parts []any) int {
	n := 0
	for at := 0; at < len(parts); at++ {
		if sizeOf(parts[at]) == 0 {
			continue
		}
		n++
		if _, begins := parts[at].(api.Begin); begins {
			at = endOf(parts, at)
		}
	}
	return n
}

// endOf tells where the container that begins there ends; beyond all, if it
// does not.
func endOf(way []any, at int) int {
	depth := 0
	for k := at; k < len(way); k++ {
		if sizeOf(way[k]) == 0 {
			continue
		}
		switch way[k].(type) {
		case api.Begin:
			depth++
		case api.Close:
			depth--
		}
		if depth == 0 {
			return k
		}
	}
	return len(way)
}

func isOpen(v any) bool { return sizeOf(v) != 0 && (v == any(arr) || v == any(dict)) }

// sizeOf is how large a part is; 0 of what is none.
func sizeOf(v any) int {
	switch x := v.(type) {
	case nil, bool, api.Whole, api.Close:
		return 1
	case api.Word:
		return 1 + len(x)
	case api.Blob:
		return 1 + len(x)
	case api.Begin:
		if x.Count >= -1 {
			return 1
		}
	}
	return 0
}

// step is one Step, and what is known behind it.
func step(s *stage.Stage, v any) told {
	parts, e := s.Step(v)
	return told{parts: parts, e: e, held: s.Held(), empty: s.Empty()}
}

// agrees holds a whole way against the model, and tells all that went on.
func agrees(t *testing.T, limit int, way ...any) []any {
	t.Helper()
	var all []any
	s, want := stage.New(limit), model(limit, way)
	for k, v := range way {
		got := step(s, v)
		if !got.same(want[k]) {
			t.Fatalf("limit %d, %s: part %d tells %v; not %v", limit, names(way), k, got, want[k])
		}
		all = append(all, got.parts...)
	}
	return all
}

// names tells parts in few words.
func names(parts []any) string {
	var all []string
	for _, v := range parts[:min(len(parts), 40)] {
		all = append(all, name(v))
	}
	if len(all) < len(parts) {
		all = append(all, "..")
	}
	return "[" + strings.Join(all, " ") + "]"
}

// name tells a value in few signs.
func name(v any) string {
	switch x := v.(type) {
	case api.Word:
		return fmt.Sprintf("Word(%.20q)", string(x))
	case api.Blob:
		return fmt.Sprintf("Blob(%.20q)", string(x))
	}
	return strings.ReplaceAll(fmt.Sprintf("%#v", v), "api.", "")
}

// draws tells numbers below n, the same ones each time.
func draws(seed uint64) func(n int) int {
	return func(n int) int {
		seed = seed*6364136223846793005 + 1442695040888963407
		return int(seed >> 33 % uint64(n))
	}
}
