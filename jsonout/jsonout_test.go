package jsonout_test

import (
	"encoding/base64"
	"encoding/json"
	"fmt"
	"math"
	"slices"
	"strings"
	"testing"

	"truchman/api"
	"truchman/event"
	"truchman/jsonin"
	"truchman/jsonout"
)

// Parts, by short names.
var (
	arr   = api.Begin{Count: -1}
	dict  = api.Begin{Map: true, Count: -1}
	end   = api.Close{}
	one   = api.Whole{Mag: 1}
	wordA = api.Word("a")
	wordB = api.Word("b")
)

func list(parts ...any) []any { return parts }

// through steps through parts that have no error, and tells the writer.
func through(t *testing.T, parts ...any) *jsonout.Writer {
	t.Helper()
	var w jsonout.Writer
	for k, v := range parts {
		if _, e := w.Step(v); e != api.OK {
			t.Fatalf("%s: part %d tells %d", names(parts), k, e)
		}
	}
	return &w
}

// writes asks for the bytes of each part of a document, or of a beginning.
func writes(t *testing.T, parts []any, want ...string) {
	t.Helper()
	var w jsonout.Writer
	for k, v := range parts {
		if got, e := w.Step(v); got != want[k] || e != api.OK {
			t.Errorf("%s: part %d tells %q, %d; not %q", names(parts), k, got, e, want[k])
		}
	}
	if got := agrees(t, parts...); got != strings.Join(want, "") {
		t.Errorf("%s: %q; not %q", names(parts), got, want)
	}
}

// refused asks that a part is refused behind others, time and again, that
// nothing is written, and that all goes on as if it had not been there.
func refused(t *testing.T, want api.Errno, v any, ahead ...any) {
	t.Helper()
	w := through(t, ahead...)
	done := w.Done()
	for range 3 {
		if s, e := w.Step(v); s != "" || e != want || w.Done() != done {
			t.Errorf("%#v behind %s: %q, %d, done %v; not %d, %v", v, names(ahead), s, e, w.Done(), want, done)
		}
	}
	goesOn(t, w, ahead)
}

// goesOn asks that a writer tells of each next part what one tells that has
// seen these parts alone.
func goesOn(t *testing.T, w *jsonout.Writer, seen []any) {
	t.Helper()
	fresh := through(t, seen...)
	for _, v := range list(wordA, one, end, arr, end, wordB, nil, end, end, true) {
		want, wantE := fresh.Step(v)
		if got, e := w.Step(v); got != want || e != wantE || w.Done() != fresh.Done() {
			t.Errorf("behind a part that was refused, and %s: %#v tells %q, %d; not %q, %d", names(seen), v, got, e, want, wantE)
		}
	}
}

// aheads are parts without an error, by what comes next behind them.
func aheads() map[string][][]any {
	return map[string][][]any{
		"document": {{}},
		"item":     {{arr}, {arr, nil}, {arr, arr}, {arr, arr, end}, {dict, wordA, arr}, {arr, dict, end}, {arr, dict, wordA, one, end}, {arr, wordA}, {api.Begin{Count: 0}}, {api.Begin{Count: 1}, one}},
		"key":      {{dict}, {dict, wordA, nil}, {dict, wordA, wordB}, {arr, dict}, {dict, wordA, dict}, {dict, wordA, dict, end}, {dict, wordA, arr, one, end}, {api.Begin{Map: true}}, {api.Begin{Map: true, Count: 1}, wordA, nil}},
		"value":    {{dict, wordA}, {dict, wordA, one, wordA}, {arr, dict, wordA}, {dict, wordA, dict, wordB}, {dict, wordA, dict, end, wordB}, {api.Begin{Map: true}, wordA}},
		"behind":   {{nil}, {false}, {one}, {wordA}, {api.Blob("")}, {arr, end}, {dict, end}, {arr, dict, end, end}, {dict, wordA, arr, end, end}, {api.Begin{Count: 5}, end}},
	}
}

// noParts are values that are none.
func noParts() []any {
	word := wordA
	return []any{
		5, 0, -1, uint64(5), 1.5, "a", "", 'a', byte(0), []byte("a"), []any{}, map[string]any{}, []int(nil), api.Ev{}, api.OK, api.Begin{Count: -2}, api.Begin{Map: true, Count: -2}, api.Begin{Count: math.MinInt}, api.Setup{},
		&word, &one, (*api.Close)(nil), (*any)(nil), &end, struct{}{}, struct{ Neg bool }{}, func() {}, make(chan int), api.ErrState, []api.Word{"a"}, [1]any{nil}, named(true), fmt.Errorf("x"),
	}
}

type named bool

func TestP1201ZeroWaits(t *testing.T) {
	var w jsonout.Writer
	for range 2 {
		if w.Done() {
			t.Error("a zero one is done")
		}
	}
	if s, e := w.Step(nil); s != "null" || e != api.OK || !w.Done() {
		t.Errorf("its first part tells %q, %d, done %v", s, e, w.Done())
	}
}

func TestP1201Values(t *testing.T) {
	for want, v := range map[string]any{
		"null": nil, "true": true, "false": false, "0": api.Whole{}, "1": one, "-1": api.Whole{Neg: true}, "10": api.Whole{Mag: 10}, "-10": api.Whole{Neg: true, Mag: 9},
		"18446744073709551615": api.Whole{Mag: math.MaxUint64}, "-18446744073709551616": api.Whole{Neg: true, Mag: math.MaxUint64}, "-18446744073709551615": api.Whole{Neg: true, Mag: math.MaxUint64 - 1},
		`"a"`: wordA, `"é€😀"`: api.Word("é€😀"), `"null"`: api.Word("null"), `"[1,2]"`: api.Word("[1,2]"),
		`"aGk"`: api.Blob("hi"), `"YQ"`: api.Blob("a"), `"YWJj"`: api.Blob("abc"), `"-_8"`: api.Blob("\xfb\xff"), `"AA"`: api.Blob("\x00"), `"Ig"`: api.Blob(`"`),
	} {
		writes(t, list(v), want)
		writes(t, list(arr, v, v, end), "[", want, ","+want, "]")
		writes(t, list(dict, wordB, v, wordA, v, end), "{", `"b"`, ":"+want, `,"a"`, ":"+want, "}")
	}
	writes(t, list(api.Word("")), `""`)
	writes(t, list(api.Blob("")), `""`)
}

// TestP1201Words holds what is escaped, in a value and in a key.
func TestP1201Words(t *testing.T) {
	for s, inside := range map[string]string{
		`a"b`: `a\"b`, `\`: `\\`, "\b\f\n\r\t": `\b\f\n\r\t`, "\x00\x1f\x0b": `\u0000\u001f\u000b`, "/": "/", "\x7f": "\x7f", "<&>'": "<&>'", "\u2028": "\u2028", `\n`: `\\n`, "\"\"": `\"\"`,
		"\xff": "\xff", "a\xc3": "a\xc3", // no UTF-8: it stays as it is
	} {
		w := through(t)
		for k, part := range []struct {
			v    any
			want string
		}{{dict, "{"}, {api.Word(s), `"` + inside + `"`}, {api.Word(s), `:"` + inside + `"`}, {end, "}"}} {
			if got, e := w.Step(part.v); got != part.want || e != api.OK {
				t.Errorf("%q: part %d tells %q, %d; not %q", s, k, got, e, part.want)
			}
		}
	}
}

func TestP1201EachByte(t *testing.T) {
	for b := range 256 {
		s := string([]byte{byte(b)})
		if got, e := jsonout.All(api.Ev{Kind: api.Bytes, Text: s + s}); got != `"`+base64.RawURLEncoding.EncodeToString([]byte(s+s))+`"` || e != api.OK {
			t.Errorf("two bytes %#x: %q, %d", b, got, e)
		}
		got, e := jsonout.All(api.Ev{Kind: api.Text, Text: "x" + s + "y"})
		var back string
		if b < 0x80 && (json.Unmarshal([]byte(got), &back) != nil || back != "x"+s+"y") || b >= 0x80 && got != "\"x"+s+"y\"" || e != api.OK {
			t.Errorf("a text with the byte %#x: %q, %d", b, got, e)
		}
	}
}

func TestP1201Containers(t *testing.T) {
	writes(t, list(arr, end), "[", "]")
	writes(t, list(dict, end), "{", "}")
	writes(t, list(arr, nil, wordA, end), "[", "null", `,"a"`, "]")
	writes(t, list(dict, wordA, nil, end), "{", `"a"`, ":null", "}")
	writes(t, list(arr, arr, end, arr, arr, end, end, dict, end, end), "[", "[", "]", ",[", "[", "]", "]", ",{", "}", "]")
	writes(t, list(dict, wordA, dict, wordB, arr, dict, end, end, end, wordB, one, end), "{", `"a"`, ":{", `"b"`, ":[", "{", "}", "]", "}", `,"b"`, ":1", "}")
	writes(t, list(arr, one, arr, true, dict, wordA, false, wordB, arr, end, end, end, wordB, end), "[", "1", ",[", "true", ",{", `"a"`, ":false", `,"b"`, ":[", "]", "}", "]", `,"b"`, "]")
	writes(t, list(dict, wordA, wordB, wordA, wordB, end), "{", `"a"`, `:"b"`, `,"a"`, `:"b"`, "}")
	writes(t, list(dict, api.Word(""), api.Blob(""), end), "{", `""`, `:""`, "}")
}

// TestP1201CountsArePassedBy holds that a container may have more or fewer
// parts than its Count says.
func TestP1201CountsArePassedBy(t *testing.T) {
	for _, n := range []int{-1, 0, 1, 2, 3, 7, 1_000_000, 1 << 32, math.MaxInt} {
		array, pairs := api.Begin{Count: n}, api.Begin{Map: true, Count: n}
		writes(t, list(array, end), "[", "]")
		writes(t, list(array, one, one, end), "[", "1", ",1", "]")
		writes(t, list(array, array, end, array, nil, nil, nil, end, end), "[", "[", "]", ",[", "null", ",null", ",null", "]", "]")
		writes(t, list(pairs, end), "{", "}")
		writes(t, list(pairs, wordA, one, wordB, pairs, wordA, array, end, end, end), "{", `"a"`, ":1", `,"b"`, ":{", `"a"`, ":[", "]", "}", "}")
		if got, e := jsonout.All(api.Ev{Kind: api.Array, Count: n}, api.Ev{}, api.Ev{}, api.Ev{Kind: api.End}); got != "[null,null]" || e != api.OK {
			t.Errorf("All of a Count of %d: %q, %d", n, got, e)
		}
	}
}

func TestP1201Examples(t *testing.T) {
	got, e := jsonout.All(api.Ev{Kind: api.Array, Count: -1}, api.Ev{}, api.Ev{Kind: api.Text, Text: "a"}, api.Ev{Kind: api.End})
	if got != `[null,"a"]` || e != api.OK {
		t.Errorf("%q, %d", got, e)
	}
}

func TestP1201BehindTheEnd(t *testing.T) {
	for _, ahead := range aheads()["behind"] {
		for _, v := range append(list(nil, true, one, wordA, api.Blob("a"), arr, dict, end), noParts()...) {
			refused(t, api.ErrState, v, ahead...)
		}
		if !through(t, ahead...).Done() {
			t.Errorf("%s is not done", names(ahead))
		}
	}
}

func TestP1201CloseThatMayNotBe(t *testing.T) {
	for place, all := range aheads() {
		for _, ahead := range all {
			if place == "item" || place == "key" {
				agrees(t, append(slices.Clone(ahead), end)...)
				through(t, append(slices.Clone(ahead), end)...)
				continue
			}
			refused(t, api.ErrState, end, ahead...)
		}
	}
}

// TestP1201NoPart holds that what is no part is ErrState wherever it comes,
// also at a key's place.
func TestP1201NoPart(t *testing.T) {
	for _, all := range aheads() {
		for _, ahead := range all {
			for _, v := range noParts() {
				refused(t, api.ErrState, v, ahead...)
			}
		}
	}
}

func TestP1201KeyThatIsNoWord(t *testing.T) {
	others := list(nil, true, false, one, api.Blob("a"), api.Blob(""), arr, dict, api.Begin{Count: 0})
	for place, all := range aheads() {
		for _, ahead := range all {
			for _, v := range others {
				switch place {
				case "key":
					refused(t, api.ErrKind, v, ahead...)
				case "document", "item", "value":
					through(t, append(slices.Clone(ahead), v)...)
				}
			}
			if place != "behind" {
				through(t, append(slices.Clone(ahead), api.Word(""))...)
			}
		}
	}
}

func TestP1201Done(t *testing.T) {
	for place, all := range aheads() {
		for _, ahead := range all {
			w := through(t, ahead...)
			for range 2 {
				if w.Done() != (place == "behind") {
					t.Errorf("%s: done %v", names(ahead), w.Done())
				}
			}
			goesOn(t, w, ahead)
		}
	}
}

func TestP1201Nil(t *testing.T) {
	var none *jsonout.Writer
	for _, v := range append(list(nil, true, one, wordA, arr, dict, end, api.Blob("a")), noParts()...) {
		if s, e := none.Step(v); s != "" || e != api.ErrState || none.Done() {
			t.Errorf("nil: %#v tells %q, %d, %v", v, s, e, none.Done())
		}
	}
}

func TestP1201All(t *testing.T) {
	open, pairs, shut, null := api.Ev{Kind: api.Array, Count: -1}, api.Ev{Kind: api.Map, Count: 1}, api.Ev{Kind: api.End}, api.Ev{}
	text := func(s string) api.Ev { return api.Ev{Kind: api.Text, Text: s} }
	for _, c := range []struct {
		l    []api.Ev
		want string
		e    api.Errno
	}{
		{nil, "", api.ErrMore}, {[]api.Ev{}, "", api.ErrMore}, {[]api.Ev{null}, "null", api.OK}, {[]api.Ev{pairs, text("a"), open, shut, shut}, `{"a":[]}`, api.OK},
		{[]api.Ev{{Kind: api.Bool, Yes: true}}, "true", api.OK}, {[]api.Ev{{Kind: api.Bool}}, "false", api.OK}, {[]api.Ev{{Kind: api.Int, Yes: true, Mag: 4}}, "-5", api.OK}, {[]api.Ev{{Kind: api.Bytes, Text: "hi"}}, `"aGk"`, api.OK},
		{[]api.Ev{{Kind: api.Null, Yes: true, Mag: 3, Text: "x", Count: -9}}, "null", api.OK}, // what a kind has not is passed by
		{[]api.Ev{open}, "[", api.ErrMore}, {[]api.Ev{open, null, null}, "[null,null", api.ErrMore}, {[]api.Ev{pairs, text("a")}, `{"a"`, api.ErrMore}, {[]api.Ev{open, open, shut}, "[[]", api.ErrMore},
		{[]api.Ev{null, null}, "null", api.ErrState}, {[]api.Ev{open, shut, shut, {Kind: 9}}, "[]", api.ErrState}, {[]api.Ev{shut}, "", api.ErrState}, {[]api.Ev{pairs, text("a"), shut, null}, `{"a"`, api.ErrState},
		{[]api.Ev{pairs, null, shut}, "{", api.ErrKind}, {[]api.Ev{open, pairs, {Kind: api.Bytes}, {Kind: 9}}, "[{", api.ErrKind}, {[]api.Ev{pairs, pairs}, "{", api.ErrKind},
		{[]api.Ev{{Kind: 8}}, "", api.ErrArg}, {[]api.Ev{{Kind: -1}}, "", api.ErrArg}, {[]api.Ev{open, null, {Kind: api.Array, Count: -2}, shut, shut}, "[null", api.ErrArg}, {[]api.Ev{pairs, {Kind: api.Map, Count: -2}}, "{", api.ErrArg}, {[]api.Ev{null, {Kind: 9}}, "null", api.ErrArg},
	} {
		was := slices.Clone(c.l)
		if got, e := jsonout.All(c.l...); got != c.want || e != c.e || !slices.Equal(was, c.l) {
			t.Errorf("All of %v: %q, %d; not %q, %d", c.l, got, e, c.want, c.e)
		}
	}
}

// TestP1201Deep holds that the writer itself knows no greatest depth.
func TestP1201Deep(t *testing.T) {
	const depth = 1 << 16
	var w jsonout.Writer
	step := func(v any, want string, done bool) {
		if got, e := w.Step(v); got != want || e != api.OK || w.Done() != done {
			t.Fatalf("%#v: %q, %d, done %v; not %q, %v", v, got, e, w.Done(), want, done)
		}
	}
	step(arr, "[", false)
	for range depth/2 - 1 {
		step(dict, "{", false)
		step(wordA, `"a"`, false)
		step(arr, ":[", false)
	}
	for range depth/2 - 1 {
		step(end, "]", false)
		step(wordB, `,"b"`, false)
		step(one, ":1", false)
		step(end, "}", false)
		step(nil, ",null", false)
	}
	step(end, "]", true)
}

// TestP1201LongTexts holds that the writer itself knows no greatest text.
func TestP1201LongTexts(t *testing.T) {
	for _, n := range []int{199, 200, 201, 100_000, 1_000_001} {
		s := strings.Repeat("a", n)
		writes(t, list(api.Word(s)), `"`+s+`"`)
		writes(t, list(dict, api.Word(s), api.Blob(s), end), "{", `"`+s+`"`, `:"`+base64.RawURLEncoding.EncodeToString([]byte(s))+`"`, "}")
	}
}

// TestP1201EachItsOwn holds that writers do not touch one another.
func TestP1201EachItsOwn(t *testing.T) {
	var a, b jsonout.Writer
	turns := []struct {
		w    *jsonout.Writer
		v    any
		want string
	}{{&a, arr, "["}, {&b, dict, "{"}, {&a, one, "1"}, {&b, wordA, `"a"`}, {&a, dict, ",{"}, {&b, arr, ":["}, {&a, end, "}"}, {&b, one, "1"}, {&b, end, "]"}, {&a, nil, ",null"}, {&b, end, "}"}, {&a, end, "]"}}
	for k, turn := range turns {
		if got, e := turn.w.Step(turn.v); got != turn.want || e != api.OK {
			t.Errorf("turn %d tells %q, %d; not %q", k, got, e, turn.want)
		}
	}
	if !a.Done() || !b.Done() {
		t.Errorf("done %v, %v", a.Done(), b.Done())
	}
}

// TestP1201AllWays asks all ways of a few parts, those that are refused too.
func TestP1201AllWays(t *testing.T) {
	kinds := list(nil, wordA, api.Blob("a"), arr, dict, end, 5)
	ways := [][]any{{}}
	for range 5 {
		var next [][]any
		for _, way := range ways {
			for _, v := range kinds {
				longer := append(slices.Clone(way), v)
				agrees(t, longer...)
				next = append(next, longer)
			}
		}
		ways = next
	}
}

// TestP1201AllDocuments asks all ways of a few parts that are not refused.
func TestP1201AllDocuments(t *testing.T) {
	kinds, done := list(one, wordA, arr, dict, end), 0
	var grow func(way []any, more int)
	grow = func(way []any, more int) {
		s := agrees(t, way...)
		if through(t, way...).Done() {
			done++
			comesBack(t, s, way)
		}
		if more == 0 {
			return
		}
		for _, v := range kinds {
			if _, e := through(t, way...).Step(v); e == api.OK {
				grow(append(slices.Clone(way), v), more-1)
			}
		}
	}
	grow(nil, 8)
	if done < 1000 {
		t.Errorf("only %d are documents", done)
	}
}

// comesBack asks that what was written is read as the same parts, but that
// bytes are a text of their signs, and no count is known.
func comesBack(t *testing.T, s string, parts []any) {
	t.Helper()
	back, e := jsonin.All(s, api.MaxDepth)
	if e != api.OK || len(back) != len(parts) {
		t.Fatalf("%q is read as %d parts, %d", s, len(back), e)
	}
	for k, v := range parts {
		switch x := v.(type) {
		case api.Begin:
			v = api.Begin{Map: x.Map, Count: -1}
		case api.Blob:
			v = api.Word(base64.RawURLEncoding.EncodeToString([]byte(x)))
		}
		if got, _ := event.Of(back[k]); got != v {
			t.Fatalf("%q: part %d comes back as %#v, not %#v", s, k, got, v)
		}
	}
}

// TestP1201LongWay writes long ways of drawn parts, many of them refused.
func TestP1201LongWay(t *testing.T) {
	draw := draws(12)
	pieces := list(nil, true, false, one, api.Whole{Neg: true, Mag: 1 << 63}, wordA, wordB, api.Word("é\"\n\\"), api.Blob("\xff\x00"), api.Blob(""), arr, dict, api.Begin{Count: 2}, api.Begin{Map: true, Count: 0}, end, end, end, "x", api.Begin{Count: -2})
	documents := 0
	for range 3_000 {
		var way, taken []any
		var w jsonout.Writer
		way = append(way, list(arr, dict, api.Begin{Count: 3})[draw(3)])
		for range draw(40) {
			way = append(way, pieces[draw(len(pieces))])
		}
		for _, v := range way {
			if _, e := w.Step(v); e == api.OK {
				taken = append(taken, v)
			}
		}
		s := agrees(t, way...)
		if again := agrees(t, taken...); again != s {
			t.Fatalf("%s: %q; without what was refused %q", names(way), s, again)
		}
		if w.Done() {
			documents++
			comesBack(t, s, taken)
		}
	}
	if documents < 300 {
		t.Errorf("only %d are documents", documents)
	}
}
