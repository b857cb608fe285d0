package cborout_test

import (
	"fmt"
	"math"
	"slices"
	"strings"
	"testing"

	"truchman/api"
	"truchman/cborout"
)

// Parts, by short names.
var (
	arr   = api.Begin{Count: -1}
	dict  = api.Begin{Map: true, Count: -1}
	end   = api.Close{}
	one   = api.Whole{Mag: 1}
	wordA = api.Word("a")
	wordB = api.Word("b")
)

func arrOf(n int) api.Begin  { return api.Begin{Count: n} }
func dictOf(n int) api.Begin { return api.Begin{Map: true, Count: n} }

func list(parts ...any) []any { return parts }

// with tells a list with more behind it, and leaves the list as it is.
func with(l []any, more ...any) []any { return append(slices.Clone(l), more...) }

// through steps through parts that have no error, and tells the writer.
func through(t *testing.T, parts ...any) *cborout.Writer {
	t.Helper()
	var w cborout.Writer
	for k, v := range parts {
		if _, e := w.Step(v); e != api.OK {
			t.Fatalf("%s: part %d tells %d", names(parts), k, e)
		}
	}
	return &w
}

// writes asks for the bytes of each part of a document, or of a beginning.
func writes(t *testing.T, parts []any, want ...string) {
	t.Helper()
	if len(parts) != len(want) {
		t.Fatalf("%s: %d parts, and bytes of %d", names(parts), len(parts), len(want))
	}
	var w cborout.Writer
	for k, v := range parts {
		if got, e := w.Step(v); got != want[k] || e != api.OK {
			t.Errorf("%s: part %d tells %.200x, %d; not %.200x", names(parts), k, got, e, want[k])
		}
	}
	if got := agrees(t, parts...); got != strings.Join(want, "") {
		t.Errorf("%s: %.200x; not %.200x", names(parts), got, want)
	}
}

// refused asks that a part is refused behind others, time and again, that
// nothing is written, and that all goes on as if it had not been there.
func refused(t *testing.T, want api.Errno, v any, ahead ...any) {
	t.Helper()
	w := through(t, ahead...)
	done := w.Done()
	for range 3 {
		if s, e := w.Step(v); s != "" || e != want || w.Done() != done {
			t.Errorf("%#v behind %s: %x, %d, done %v; not %d, %v", v, names(ahead), s, e, w.Done(), want, done)
		}
	}
	goesOn(t, w, ahead)
}

// goesOn asks that a writer tells of each next part what one tells that has
// seen these parts alone.
func goesOn(t *testing.T, w *cborout.Writer, seen []any) {
	t.Helper()
	fresh := through(t, seen...)
	for _, v := range list(wordA, one, end, arrOf(0), end, wordB, nil, end, arr, end, end, true) {
		want, wantE := fresh.Step(v)
		if got, e := w.Step(v); got != want || e != wantE || w.Done() != fresh.Done() {
			t.Errorf("behind a part that was refused, and %s: %#v tells %x, %d; not %x, %d", names(seen), v, got, e, want, wantE)
		}
	}
}

// Places of a next part.
const (
	document = "document"
	item     = "item"    // behind which an end may come
	lacking  = "lacking" // an item, its container has not all it says
	key      = "key"     // behind which an end may come
	lackKey  = "lackKey" // a key, its container has not all it says
	value    = "value"
	full     = "full"    // its container has all it says
	fullMap  = "fullMap" // likewise
	behind   = "behind"
)

// aheads are parts without an error, by what comes next behind them.
func aheads() map[string][][]any {
	return map[string][][]any{
		document: {{}},
		item:     {{arr}, {arr, nil}, {arr, arr}, {arr, arr, end}, {dict, wordA, arr}, {arr, dict, end}, {arr, dict, wordA, one, end}, {arr, wordA}, {arr, arrOf(0), end}, {arr, arrOf(1), nil, end}, {arrOf(1), arr, nil}},
		lacking:  {{arrOf(1)}, {arrOf(2)}, {arrOf(2), nil}, {arrOf(3), arrOf(0), end, arrOf(2), nil, nil, end}, {arrOf(300), wordA}, {arr, arrOf(1)}, {dictOf(1), wordA, arrOf(1)}, {dict, wordA, arrOf(2), dict, end}, {arrOf(2), dictOf(1), wordA, wordB, end}},
		key:      {{dict}, {dict, wordA, nil}, {dict, wordA, wordB}, {arr, dict}, {dict, wordA, dict}, {dict, wordA, dict, end}, {dict, wordA, arr, one, end}, {dict, wordA, dictOf(0), end}, {arrOf(1), dict}, {dictOf(1), wordA, dict}},
		lackKey:  {{dictOf(1)}, {dictOf(2)}, {dictOf(2), wordA, nil}, {dictOf(2), wordA, dictOf(0), end}, {dictOf(300), wordA, one}, {arr, dictOf(1)}, {arrOf(1), dictOf(1)}, {dict, wordA, dictOf(1)}, {dictOf(3), wordA, nil, wordA, arrOf(1), nil, end}},
		value:    {{dict, wordA}, {dict, wordA, one, wordA}, {arr, dict, wordA}, {dict, wordA, dict, wordB}, {dict, wordA, dict, end, wordB}, {dictOf(1), wordA}, {dictOf(2), wordA}, {dictOf(2), wordA, nil, wordB}, {arrOf(1), dictOf(1), wordA}, {dictOf(2), wordA, dictOf(1), wordB}, {dictOf(300), wordA}},
		full:     {{arrOf(0)}, {arrOf(1), nil}, {arrOf(2), nil, one}, {arrOf(1), arr, end}, {arrOf(1), arrOf(1), nil, end}, {arrOf(1), arrOf(1), nil}, {arr, arrOf(0)}, {dict, wordA, arrOf(1), wordB}, {arrOf(2), arrOf(0), end, dictOf(1), wordA, nil, end}},
		fullMap:  {{dictOf(0)}, {dictOf(1), wordA, nil}, {dictOf(2), wordA, nil, wordA, one}, {dictOf(1), wordA, dict, end}, {dictOf(1), wordA, dictOf(0), end}, {dictOf(1), wordA, dictOf(0)}, {arr, dictOf(1), wordA, wordB}, {arrOf(1), dictOf(0)}, {dict, wordA, dictOf(1), wordB, arrOf(3), nil, nil, nil, end}},
		behind:   {{nil}, {false}, {one}, {wordA}, {api.Blob("")}, {arr, end}, {dict, end}, {arrOf(0), end}, {dictOf(0), end}, {arr, dict, end, end}, {arrOf(1), dictOf(1), wordA, arrOf(1), nil, end, end, end}},
	}
}

// each goes through all parts that may be ahead, by what comes next.
func each(ask func(place string, ahead []any)) {
	for place, all := range aheads() {
		for _, ahead := range all {
			ask(place, ahead)
		}
	}
}

// anyParts are parts of all kinds.
func anyParts() []any {
	return list(nil, true, false, one, api.Whole{Neg: true}, wordA, api.Word(""), api.Blob("a"), api.Blob(""), arr, dict, arrOf(0), dictOf(0), arrOf(1), dictOf(1), end)
}

// noParts are values that are none.
func noParts() []any {
	word := wordA
	return []any{
		5, 0, -1, uint64(5), 1.5, "a", "", 'a', byte(0), []byte("a"), []any{}, map[string]any{}, []int(nil), api.Ev{}, api.OK, arrOf(-2), dictOf(-2), arrOf(math.MinInt), dictOf(math.MinInt), api.Setup{},
		&word, &one, (*api.Close)(nil), (*any)(nil), &end, struct{}{}, struct{ Neg bool }{}, func() {}, make(chan int), api.ErrState, []api.Word{"a"}, [1]any{nil}, named(true), fmt.Errorf("x"),
	}
}

type named bool

func TestP1401ZeroWaits(t *testing.T) {
	var w cborout.Writer
	for range 2 {
		if w.Done() {
			t.Error("a zero one is done")
		}
	}
	if s, e := w.Step(nil); s != "\xf6" || e != api.OK || !w.Done() {
		t.Errorf("its first part tells %x, %d, done %v", s, e, w.Done())
	}
}

// asValue asks for the bytes of a value wherever one may be.
func asValue(t *testing.T, v any, want string) {
	t.Helper()
	writes(t, list(v), want)
	writes(t, list(arr, v, v, end), "\x9f", want, want, "\xff")
	writes(t, list(arrOf(2), v, v, end), "\x82", want, want, "")
	writes(t, list(dict, wordB, v, wordA, v, end), "\xbf", "ab", want, "aa", want, "\xff")
	writes(t, list(dictOf(2), wordB, v, wordA, v, end), "\xa2", "ab", want, "aa", want, "")
}

func TestP1401Values(t *testing.T) {
	for want, v := range map[string]any{
		"\xf6": nil, "\xf4": false, "\xf5": true,
		"\x60": api.Word(""), "\x61a": wordA, "\x62\xc3\xa9": api.Word("é"), "\x67é€\xe2\x82": api.Word("é€\xe2\x82"), "\x61\x00": api.Word("\x00"), "\x62\"\\": api.Word("\"\\"), "\x61\xff": api.Word("\xff"),
		"\x40": api.Blob(""), "\x41a": api.Blob("a"), "\x42hi": api.Blob("hi"), "\x42\xff\x00": api.Blob("\xff\x00"), "\x42\xc3\xa9": api.Blob("é"),
	} {
		asValue(t, v, want)
	}
}

// TestP1401Wholes holds the heads of whole numbers, at their lengths' edges.
func TestP1401Wholes(t *testing.T) {
	for _, c := range []struct {
		mag         uint64
		first, more string
	}{
		{0, "\x00\x20", ""}, {1, "\x01\x21", ""}, {10, "\x0a\x2a", ""}, {22, "\x16\x36", ""}, {23, "\x17\x37", ""},
		{24, "\x18\x38", "\x18"}, {25, "\x18\x38", "\x19"}, {99, "\x18\x38", "\x63"}, {127, "\x18\x38", "\x7f"}, {128, "\x18\x38", "\x80"}, {255, "\x18\x38", "\xff"},
		{256, "\x19\x39", "\x01\x00"}, {999, "\x19\x39", "\x03\xe7"}, {1000, "\x19\x39", "\x03\xe8"}, {32768, "\x19\x39", "\x80\x00"}, {65535, "\x19\x39", "\xff\xff"},
		{65536, "\x1a\x3a", "\x00\x01\x00\x00"}, {1_000_000, "\x1a\x3a", "\x00\x0f\x42\x40"}, {1 << 31, "\x1a\x3a", "\x80\x00\x00\x00"}, {math.MaxUint32, "\x1a\x3a", "\xff\xff\xff\xff"},
		{1 << 32, "\x1b\x3b", "\x00\x00\x00\x01\x00\x00\x00\x00"}, {1_000_000_000_000, "\x1b\x3b", "\x00\x00\x00\xe8\xd4\xa5\x10\x00"},
		{math.MaxInt64, "\x1b\x3b", "\x7f\xff\xff\xff\xff\xff\xff\xff"}, {1 << 63, "\x1b\x3b", "\x80\x00\x00\x00\x00\x00\x00\x00"}, {math.MaxUint64, "\x1b\x3b", "\xff\xff\xff\xff\xff\xff\xff\xff"},
	} {
		asValue(t, api.Whole{Mag: c.mag}, c.first[:1]+c.more)
		asValue(t, api.Whole{Neg: true, Mag: c.mag}, c.first[1:]+c.more)
	}
}

// lengths are the heads of lengths, at their edges: of bytes, and of a text.
var lengths = []struct {
	n           int
	first, more string
}{
	{1, "\x41\x61", ""}, {23, "\x57\x77", ""}, {24, "\x58\x78", "\x18"}, {200, "\x58\x78", "\xc8"}, {201, "\x58\x78", "\xc9"}, {255, "\x58\x78", "\xff"},
	{256, "\x59\x79", "\x01\x00"}, {65535, "\x59\x79", "\xff\xff"}, {65536, "\x5a\x7a", "\x00\x01\x00\x00"}, {1_000_001, "\x5a\x7a", "\x00\x0f\x42\x41"},
}

// TestP1401LongTexts holds that their bytes are counted, and not their runes,
// and that the writer itself knows no greatest one; keys too.
func TestP1401LongTexts(t *testing.T) {
	for _, c := range lengths {
		for _, sign := range []string{"a", "é", "\xff"} {
			s := strings.Repeat(sign, c.n)[:c.n]
			blob, word := c.first[:1]+c.more+s, c.first[1:]+c.more+s
			writes(t, list(api.Blob(s)), blob)
			writes(t, list(api.Word(s)), word)
			writes(t, list(dictOf(1), api.Word(s), api.Blob(s), end), "\xa1", word, blob, "")
			writes(t, list(dict, api.Word(s), api.Word(s), end), "\xbf", word, word, "\xff")
		}
	}
}

// TestP1401EachByte holds that each byte goes as it is.
func TestP1401EachByte(t *testing.T) {
	for b := range 256 {
		s := string([]byte{byte(b), 'x', byte(b)})
		writes(t, list(arrOf(2), api.Word(s), api.Blob(s), end), "\x82", "\x63"+s, "\x43"+s, "")
		writes(t, list(dictOf(1), api.Word(s), api.Whole{Mag: uint64(b) << 8}, end), "\xa1", "\x63"+s, headOf(0, uint64(b)<<8), "")
	}
}

func TestP1401OpenContainers(t *testing.T) {
	writes(t, list(arr, end), "\x9f", "\xff")
	writes(t, list(dict, end), "\xbf", "\xff")
	writes(t, list(arr, nil, wordA, end), "\x9f", "\xf6", "aa", "\xff")
	writes(t, list(dict, wordA, nil, end), "\xbf", "aa", "\xf6", "\xff")
	writes(t, list(arr, arr, end, arr, arr, end, end, dict, end, end), "\x9f", "\x9f", "\xff", "\x9f", "\x9f", "\xff", "\xff", "\xbf", "\xff", "\xff")
	writes(t, list(dict, wordA, dict, wordB, arr, dict, end, end, end, wordB, one, end), "\xbf", "aa", "\xbf", "ab", "\x9f", "\xbf", "\xff", "\xff", "\xff", "ab", "\x01", "\xff")
	writes(t, list(dict, wordA, wordB, wordA, wordB, end), "\xbf", "aa", "ab", "aa", "ab", "\xff")
}

func TestP1401CountedContainers(t *testing.T) {
	writes(t, list(arrOf(0), end), "\x80", "")
	writes(t, list(dictOf(0), end), "\xa0", "")
	writes(t, list(arrOf(1), nil, end), "\x81", "\xf6", "")
	writes(t, list(arrOf(3), nil, wordA, one, end), "\x83", "\xf6", "aa", "\x01", "")
	writes(t, list(dictOf(1), wordA, nil, end), "\xa1", "aa", "\xf6", "")
	writes(t, list(dictOf(2), wordA, wordB, wordA, wordB, end), "\xa2", "aa", "ab", "aa", "ab", "")
	writes(t, list(arrOf(3), arrOf(0), end, arrOf(1), arrOf(0), end, end, dictOf(0), end, end), "\x83", "\x80", "", "\x81", "\x80", "", "", "\xa0", "", "")
	writes(t, list(dictOf(2), wordA, dictOf(1), wordB, arrOf(1), dictOf(0), end, end, end, wordB, one, end), "\xa2", "aa", "\xa1", "ab", "\x81", "\xa0", "", "", "", "ab", "\x01", "")
}

// TestP1401MixedContainers holds that each end is that of its own container.
func TestP1401MixedContainers(t *testing.T) {
	writes(t, list(arr, arrOf(1), dict, end, end, dictOf(0), end, end), "\x9f", "\x81", "\xbf", "\xff", "", "\xa0", "", "\xff")
	writes(t, list(arrOf(2), arr, arrOf(0), end, end, dict, wordA, dictOf(0), end, end, end), "\x82", "\x9f", "\x80", "", "\xff", "\xbf", "aa", "\xa0", "", "\xff", "")
	writes(t, list(dictOf(1), wordA, dict, wordB, dictOf(1), wordA, arr, end, end, end, end), "\xa1", "aa", "\xbf", "ab", "\xa1", "aa", "\x9f", "\xff", "", "\xff", "")
}

// TestP1401Counts holds the heads of counts, at their lengths' edges, and that
// a container of a great one does not end ahead of its parts.
func TestP1401Counts(t *testing.T) {
	for _, c := range []struct {
		n           int
		first, more string
	}{
		{0, "\x80\xa0", ""}, {1, "\x81\xa1", ""}, {2, "\x82\xa2", ""}, {15, "\x8f\xaf", ""}, {16, "\x90\xb0", ""}, {23, "\x97\xb7", ""}, {24, "\x98\xb8", "\x18"}, {100, "\x98\xb8", "\x64"}, {255, "\x98\xb8", "\xff"},
		{256, "\x99\xb9", "\x01\x00"}, {65535, "\x99\xb9", "\xff\xff"}, {65536, "\x9a\xba", "\x00\x01\x00\x00"}, {1_000_001, "\x9a\xba", "\x00\x0f\x42\x41"}, {1 << 31, "\x9a\xba", "\x80\x00\x00\x00"}, {math.MaxUint32, "\x9a\xba", "\xff\xff\xff\xff"},
		{1 << 32, "\x9b\xbb", "\x00\x00\x00\x01\x00\x00\x00\x00"}, {1 << 62, "\x9b\xbb", "\x40\x00\x00\x00\x00\x00\x00\x00"}, {1<<62 + 1, "\x9b\xbb", "\x40\x00\x00\x00\x00\x00\x00\x01"}, {math.MaxInt, "\x9b\xbb", "\x7f\xff\xff\xff\xff\xff\xff\xff"},
	} {
		writes(t, list(arrOf(c.n)), c.first[:1]+c.more)
		writes(t, list(dictOf(c.n)), c.first[1:]+c.more)
		if c.n < 3 {
			continue
		}
		writes(t, list(arrOf(c.n), nil, one), c.first[:1]+c.more, "\xf6", "\x01")
		writes(t, list(dictOf(c.n), wordA, one, wordB), c.first[1:]+c.more, "aa", "\x01", "ab")
		for k := range 3 {
			refused(t, api.ErrState, end, with(list(arrOf(c.n)), list(nil, one)[:k]...)...)
			refused(t, api.ErrState, end, with(list(dictOf(c.n)), list(wordA, one)[:k]...)...)
		}
	}
}

// TestP1401FilledToTheCount fills containers to just what their count says: an
// end is refused at each place ahead of that, and a part more at it.
func TestP1401FilledToTheCount(t *testing.T) {
	for _, n := range []int{0, 1, 2, 3, 23, 24, 127, 128, 255, 256, 1000, 65535, 65536, 70_000} {
		for _, begin := range []api.Begin{arrOf(n), dictOf(n)} {
			fill(t, begin)
		}
	}
}

// fill is of one of them.
func fill(t *testing.T, begin api.Begin) {
	t.Helper()
	parts := begin.Count
	if begin.Map {
		parts *= 2
	}
	var w cborout.Writer
	step := func(v any, want string, wantE api.Errno) {
		if got, e := w.Step(v); got != want || e != wantE || w.Done() {
			t.Fatalf("%#v: %#v tells %x, %d, done %v; not %x, %d", begin, v, got, e, w.Done(), want, wantE)
		}
	}
	step(begin, beginOf(begin), api.OK)
	for k := range parts {
		step(end, "", api.ErrState)
		if begin.Map && k%2 == 0 {
			step(nil, "", api.ErrKind)
		}
		step(wordA, "aa", api.OK)
	}
	for _, v := range list(wordA, nil, one, arrOf(0), dict) {
		step(v, "", api.ErrState)
	}
	if s, e := w.Step(end); s != "" || e != api.OK || !w.Done() {
		t.Errorf("%#v: its end tells %x, %d, done %v", begin, s, e, w.Done())
	}
}

// beginOf is the head of a container that says its count.
func beginOf(b api.Begin) string {
	if b.Map {
		return headOf(5, uint64(b.Count))
	}
	return headOf(4, uint64(b.Count))
}

func TestP1401Examples(t *testing.T) {
	got, e := cborout.All(api.Ev{Kind: api.Array, Count: 1}, api.Ev{Kind: api.Bool, Yes: true}, api.Ev{Kind: api.End})
	if got != "\x81\xf5" || e != api.OK {
		t.Errorf("%x, %d", got, e)
	}
}

// TestP1401Rfc holds examples of RFC 8949 that have parts of these kinds.
func TestP1401Rfc(t *testing.T) {
	n := func(v uint64) api.Whole { return api.Whole{Mag: v} }
	writes(t, list(arrOf(3), n(1), arrOf(2), n(2), n(3), end, arrOf(2), n(4), n(5), end, end), "\x83", "\x01", "\x82", "\x02", "\x03", "", "\x82", "\x04", "\x05", "", "")
	writes(t, list(dictOf(2), wordA, n(1), wordB, arrOf(2), n(2), n(3), end, end), "\xa2", "aa", "\x01", "ab", "\x82", "\x02", "\x03", "", "")
	writes(t, list(arr, n(1), arrOf(2), n(2), n(3), end, arr, n(4), n(5), end, end), "\x9f", "\x01", "\x82", "\x02", "\x03", "", "\x9f", "\x04", "\x05", "\xff", "\xff")
	writes(t, list(dict, api.Word("Fun"), true, api.Word("Amt"), api.Whole{Neg: true, Mag: 1}, end), "\xbf", "cFun", "\xf5", "cAmt", "\x21", "\xff")
	writes(t, list(arrOf(2), wordA, dict, wordB, api.Word("c"), end, end), "\x82", "aa", "\xbf", "ab", "ac", "\xff", "")
	writes(t, list(api.Word("IETF")), "dIETF")
	writes(t, list(api.Word("\u6c34")), "\x63\xe6\xb0\xb4")
	writes(t, list(api.Blob("\x01\x02\x03\x04")), "D\x01\x02\x03\x04")
}

func TestP1401BehindTheEnd(t *testing.T) {
	for _, ahead := range aheads()[behind] {
		for _, v := range append(anyParts(), noParts()...) {
			refused(t, api.ErrState, v, ahead...)
		}
		if !through(t, ahead...).Done() {
			t.Errorf("%s is not done", names(ahead))
		}
	}
}

// TestP1401CloseThatMayNotBe holds that there is no end of nothing, between a
// key and its value, or of one that has fewer parts than its Count says.
func TestP1401CloseThatMayNotBe(t *testing.T) {
	each(func(place string, ahead []any) {
		switch place {
		case item, key, full, fullMap:
			through(t, with(ahead, end)...)
			agrees(t, with(ahead, end)...)
		default:
			refused(t, api.ErrState, end, ahead...)
		}
	})
}

// TestP1401PartMore holds that one that has all its Count says takes no more:
// a key that is no Word is asked behind that.
func TestP1401PartMore(t *testing.T) {
	each(func(place string, ahead []any) {
		for _, v := range anyParts() {
			if v != end && (place == full || place == fullMap) {
				refused(t, api.ErrState, v, ahead...)
			}
		}
	})
}

// TestP1401NoPart holds that what is no part is ErrState wherever it comes,
// also at a key's place.
func TestP1401NoPart(t *testing.T) {
	each(func(place string, ahead []any) {
		for _, v := range noParts() {
			refused(t, api.ErrState, v, ahead...)
		}
	})
}

func TestP1401KeyThatIsNoWord(t *testing.T) {
	each(func(place string, ahead []any) {
		for _, v := range anyParts() {
			_, isWord := v.(api.Word)
			switch place {
			case key, lackKey:
				if isWord {
					through(t, with(ahead, v)...)
				} else if v != end {
					refused(t, api.ErrKind, v, ahead...)
				}
			case document, item, lacking, value:
				if v != end {
					through(t, with(ahead, v)...)
				}
			}
		}
	})
}

func TestP1401Done(t *testing.T) {
	each(func(place string, ahead []any) {
		w := through(t, ahead...)
		for range 2 {
			if w.Done() != (place == behind) {
				t.Errorf("%s: done %v", names(ahead), w.Done())
			}
		}
		goesOn(t, w, ahead)
	})
}

func TestP1401Nil(t *testing.T) {
	var none *cborout.Writer
	for _, v := range append(anyParts(), noParts()...) {
		if s, e := none.Step(v); s != "" || e != api.ErrState || none.Done() {
			t.Errorf("nil: %#v tells %x, %d, %v", v, s, e, none.Done())
		}
	}
}

func TestP1401All(t *testing.T) {
	open, pairs, two, shut, null := api.Ev{Kind: api.Array, Count: -1}, api.Ev{Kind: api.Map, Count: 1}, api.Ev{Kind: api.Array, Count: 2}, api.Ev{Kind: api.End}, api.Ev{}
	text := func(s string) api.Ev { return api.Ev{Kind: api.Text, Text: s} }
	for _, c := range []struct {
		l    []api.Ev
		want string
		e    api.Errno
	}{
		{nil, "", api.ErrMore}, {[]api.Ev{}, "", api.ErrMore}, {[]api.Ev{null}, "\xf6", api.OK}, {[]api.Ev{pairs, text("a"), open, shut, shut}, "\xa1aa\x9f\xff", api.OK}, {[]api.Ev{two, null, null, shut}, "\x82\xf6\xf6", api.OK},
		{[]api.Ev{{Kind: api.Bool, Yes: true}}, "\xf5", api.OK}, {[]api.Ev{{Kind: api.Bool}}, "\xf4", api.OK}, {[]api.Ev{{Kind: api.Int, Yes: true, Mag: 4}}, "\x24", api.OK}, {[]api.Ev{{Kind: api.Int, Mag: 4}}, "\x04", api.OK}, {[]api.Ev{{Kind: api.Bytes, Text: "hi"}}, "Bhi", api.OK},
		{[]api.Ev{{Kind: api.Map, Count: -1, Yes: true, Mag: 3, Text: "x"}, shut}, "\xbf\xff", api.OK}, {[]api.Ev{{Kind: api.Null, Yes: true, Mag: 3, Text: "x", Count: -9}}, "\xf6", api.OK}, // what a kind has not is passed by
		{[]api.Ev{open}, "\x9f", api.ErrMore}, {[]api.Ev{open, null, null}, "\x9f\xf6\xf6", api.ErrMore}, {[]api.Ev{pairs, text("a")}, "\xa1aa", api.ErrMore}, {[]api.Ev{pairs, text("a"), null}, "\xa1aa\xf6", api.ErrMore}, {[]api.Ev{open, open, shut}, "\x9f\x9f\xff", api.ErrMore}, {[]api.Ev{{Kind: api.Array}}, "\x80", api.ErrMore},
		{[]api.Ev{null, null}, "\xf6", api.ErrState}, {[]api.Ev{open, shut, shut, {Kind: 9}}, "\x9f\xff", api.ErrState}, {[]api.Ev{shut}, "", api.ErrState}, {[]api.Ev{pairs, text("a"), shut, null}, "\xa1aa", api.ErrState},
		{[]api.Ev{two, null, shut, null}, "\x82\xf6", api.ErrState}, {[]api.Ev{two, null, null, null, shut}, "\x82\xf6\xf6", api.ErrState}, {[]api.Ev{pairs, shut}, "\xa1", api.ErrState}, {[]api.Ev{pairs, text("a"), null, null}, "\xa1aa\xf6", api.ErrState},
		{[]api.Ev{pairs, null, shut}, "\xa1", api.ErrKind}, {[]api.Ev{open, pairs, {Kind: api.Bytes}, {Kind: 9}}, "\x9f\xa1", api.ErrKind}, {[]api.Ev{pairs, pairs}, "\xa1", api.ErrKind},
		{[]api.Ev{{Kind: 8}}, "", api.ErrArg}, {[]api.Ev{{Kind: -1}}, "", api.ErrArg}, {[]api.Ev{open, null, {Kind: api.Array, Count: -2}, shut, shut}, "\x9f\xf6", api.ErrArg}, {[]api.Ev{pairs, {Kind: api.Map, Count: -2}}, "\xa1", api.ErrArg}, {[]api.Ev{null, {Kind: 9}}, "\xf6", api.ErrArg}, {[]api.Ev{{Kind: api.Array}, {Kind: 9}}, "\x80", api.ErrArg},
	} {
		was := slices.Clone(c.l)
		if got, e := cborout.All(c.l...); got != c.want || e != c.e || !slices.Equal(was, c.l) {
			t.Errorf("All of %v: %x, %d; not %x, %d", c.l, got, e, c.want, c.e)
		}
	}
}

// TestP1401Deep holds that the writer itself knows no greatest depth.
func TestP1401Deep(t *testing.T) {
	const depth = 1 << 16
	var w cborout.Writer
	step := func(v any, want string, done bool) {
		if got, e := w.Step(v); got != want || e != api.OK || w.Done() != done {
			t.Fatalf("%#v: %x, %d, done %v; not %x, %v", v, got, e, w.Done(), want, done)
		}
	}
	step(arr, "\x9f", false)
	for range depth/2 - 1 {
		step(dictOf(2), "\xa2", false)
		step(wordA, "aa", false)
		step(arr, "\x9f", false)
	}
	for range depth/2 - 1 {
		step(end, "\xff", false)
		step(wordB, "ab", false)
		step(one, "\x01", false)
		step(end, "", false)
		step(nil, "\xf6", false)
	}
	step(end, "\xff", true)
}

// TestP1401EachItsOwn holds that writers do not touch one another.
func TestP1401EachItsOwn(t *testing.T) {
	var a, b cborout.Writer
	turns := []struct {
		w    *cborout.Writer
		v    any
		want string
	}{{&a, arrOf(2), "\x82"}, {&b, dict, "\xbf"}, {&a, one, "\x01"}, {&b, wordA, "aa"}, {&a, dictOf(0), "\xa0"}, {&b, arr, "\x9f"}, {&a, end, ""}, {&b, one, "\x01"}, {&b, end, "\xff"}, {&b, end, "\xff"}, {&a, end, ""}}
	for k, turn := range turns {
		if got, e := turn.w.Step(turn.v); got != turn.want || e != api.OK {
			t.Errorf("turn %d tells %x, %d; not %x", k, got, e, turn.want)
		}
	}
	if !a.Done() || !b.Done() {
		t.Errorf("done %v, %v", a.Done(), b.Done())
	}
}

// TestP1401AllWays asks all ways of a few parts, those that are refused too.
func TestP1401AllWays(t *testing.T) {
	kinds := list(nil, wordA, arr, dict, arrOf(1), dictOf(1), dictOf(0), end, 5)
	ways := [][]any{{}}
	for range 4 {
		var next [][]any
		for _, way := range ways {
			for _, v := range kinds {
				agrees(t, with(way, v)...)
				next = append(next, with(way, v))
			}
		}
		ways = next
	}
}

// TestP1401AllDocuments asks all ways of a few parts that are not refused: a
// document comes back as it was.
func TestP1401AllDocuments(t *testing.T) {
	kinds, done := list(one, wordA, arr, dict, arrOf(1), dictOf(1), arrOf(2), end), 0
	var grow func(way []any, more int)
	grow = func(way []any, more int) {
		s := agrees(t, way...)
		if through(t, way...).Done() {
			done++
			comesBack(t, s, way)
		}
		if more == 0 {
			return
		}
		for _, v := range kinds {
			if _, e := through(t, way...).Step(v); e == api.OK {
				grow(with(way, v), more-1)
			}
		}
	}
	grow(nil, 7)
	if done < 500 {
		t.Errorf("only %d are documents", done)
	}
}

// TestP1401LongWay writes long ways of drawn parts, many of them refused.
func TestP1401LongWay(t *testing.T) {
	draw := draws(14)
	pieces := list(nil, true, false, one, api.Whole{Neg: true, Mag: 1 << 63}, wordA, wordA, wordB, api.Word("é\"\n\\"), api.Blob("\xff\x00"), api.Blob(""), arr, dict, arrOf(2), dictOf(1), dictOf(0), end, end, end, end, "x", arrOf(-2))
	documents := 0
	for range 3_000 {
		var way, taken []any
		var w cborout.Writer
		way = append(way, list(arr, dict, arrOf(3), dictOf(2))[draw(4)])
		for range draw(40) {
			way = append(way, pieces[draw(len(pieces))])
		}
		for _, v := range way {
			if _, e := w.Step(v); e == api.OK {
				taken = append(taken, v)
			}
		}
		s := agrees(t, way...)
		if again := agrees(t, taken...); again != s {
			t.Fatalf("%s: %x; without what was refused %x", names(way), s, again)
		}
		if w.Done() {
			documents++
			comesBack(t, s, taken)
		}
	}
	if documents < 300 {
		t.Errorf("only %d are documents", documents)
	}
}
