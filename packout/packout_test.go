package packout_test

import (
	"encoding/binary"
	"fmt"
	"math"
	"slices"
	"strings"
	"testing"

	"truchman/api"
	"truchman/event"
	"truchman/packout"
)

// Parts, by short names.
var (
	arr   = arrOf(-1)
	dict  = dictOf(-1)
	end   = api.Close{}
	one   = api.Whole{Mag: 1}
	below = api.Whole{Neg: true, Mag: 1 << 63} // less 1 than the least
	wordA = api.Word("a")
	wordB = api.Word("b")
)

const (
	keyA = "\xa1a"
	keyB = "\xa1b"
)

func arrOf(n int) api.Begin  { return api.Begin{Count: n} }
func dictOf(n int) api.Begin { return api.Begin{Map: true, Count: n} }

func list(parts ...any) []any { return parts }

// with tells a list with more behind it, and leaves the list as it is.
func with(l []any, more ...any) []any { return append(slices.Clone(l), more...) }

// through steps through parts that have no error, and tells the writer.
func through(t *testing.T, parts ...any) *packout.Writer {
	t.Helper()
	var w packout.Writer
	for k, v := range parts {
		if _, e := w.Step(v); e != api.OK {
			t.Fatalf("%s: part %d tells %d", names(parts), k, e)
		}
	}
	return &w
}

// writes asks for the bytes of each part of a document, or of a beginning.
func writes(t *testing.T, parts []any, want ...string) {
	t.Helper()
	if len(parts) != len(want) {
		t.Fatalf("%s: %d parts, and bytes of %d", names(parts), len(parts), len(want))
	}
	var w packout.Writer
	for k, v := range parts {
		if got, e := w.Step(v); got != want[k] || e != api.OK {
			t.Errorf("%s: part %d tells %.200x, %d; not %.200x", names(parts), k, got, e, want[k])
		}
	}
	if got := agrees(t, parts...); got != strings.Join(want, "") {
		t.Errorf("%s: %.200x; not %.200x", names(parts), got, want)
	}
}

// refused asks that a part is refused behind others, time and again, that
// nothing is written, and that all goes on as if it had not been there.
func refused(t *testing.T, want api.Errno, v any, ahead ...any) {
	t.Helper()
	w := through(t, ahead...)
	done := w.Done()
	for range 3 {
		if s, e := w.Step(v); s != "" || e != want || w.Done() != done {
			t.Errorf("%#v behind %s: %x, %d, done %v; not %d, %v", v, names(ahead), s, e, w.Done(), want, done)
		}
	}
	goesOn(t, w, ahead)
}

// goesOn asks that a writer tells of each next part what one tells that has
// seen these parts alone.
func goesOn(t *testing.T, w *packout.Writer, seen []any) {
	t.Helper()
	fresh := through(t, seen...)
	for _, v := range list(wordA, one, end, arrOf(0), end, wordB, nil, end, dictOf(1), wordB, arr, below, arrOf(1), end, true, end, end, false) {
		want, wantE := fresh.Step(v)
		if got, e := w.Step(v); got != want || e != wantE || w.Done() != fresh.Done() {
			t.Errorf("behind a part that was refused, and %s: %#v tells %x, %d; not %x, %d", names(seen), v, got, e, want, wantE)
		}
	}
}

// Places of a next part.
const (
	document = "document"
	item     = "item"
	key      = "key"
	value    = "value"
	full     = "full" // its container has all it says
	fullMap  = "fullMap"
	behind   = "behind"
)

// aheads are parts without an error, by what comes next behind them.
func aheads() map[string][][]any {
	return map[string][][]any{
		document: {{}},
		item:     {{arrOf(1)}, {arrOf(2)}, {arrOf(2), nil}, {arrOf(3), arrOf(0), end, arrOf(2), nil, nil, end}, {arrOf(300), wordA}, {arrOf(1), arrOf(1)}, {arrOf(70_000), arrOf(17)}, {dictOf(1), wordA, arrOf(1)}, {arrOf(2), dictOf(1), wordA, wordB, end}, {arrOf(math.MaxUint32), one}},
		key:      {{dictOf(1)}, {dictOf(2)}, {dictOf(2), wordA, nil}, {dictOf(2), wordA, wordB}, {dictOf(2), wordA, dictOf(0), end}, {dictOf(300), wordA, one}, {arrOf(1), dictOf(1)}, {dictOf(1), wordA, dictOf(1)}, {dictOf(3), wordA, nil, wordA, arrOf(1), nil, end}, {dictOf(math.MaxUint32), wordA, one}},
		value:    {{dictOf(1), wordA}, {dictOf(2), wordA}, {dictOf(2), wordA, nil, wordB}, {arrOf(1), dictOf(1), wordA}, {dictOf(2), wordA, dictOf(1), wordB}, {dictOf(2), wordA, dictOf(0), end, wordB}, {dictOf(300), wordA}, {dictOf(math.MaxUint32), wordA}},
		full:     {{arrOf(0)}, {arrOf(1), nil}, {arrOf(2), nil, one}, {arrOf(1), dictOf(0), end}, {arrOf(1), arrOf(1), nil, end}, {arrOf(1), arrOf(1), nil}, {arrOf(2), arrOf(0)}, {dictOf(2), wordA, arrOf(1), wordB}, {arrOf(2), arrOf(0), end, dictOf(1), wordA, nil, end}},
		fullMap:  {{dictOf(0)}, {dictOf(1), wordA, nil}, {dictOf(2), wordA, nil, wordA, one}, {dictOf(1), wordA, arrOf(0), end}, {dictOf(1), wordA, dictOf(0), end}, {dictOf(1), wordA, dictOf(0)}, {arrOf(2), dictOf(1), wordA, wordB}, {arrOf(1), dictOf(0)}, {dictOf(2), wordA, dictOf(1), wordB, arrOf(3), nil, nil, nil, end}},
		behind:   {{nil}, {false}, {one}, {wordA}, {api.Blob("")}, {arrOf(0), end}, {dictOf(0), end}, {arrOf(1), dictOf(0), end, end}, {arrOf(1), dictOf(1), wordA, arrOf(1), nil, end, end, end}},
	}
}

// each goes through all parts that may be ahead, by what comes next.
func each(ask func(place string, ahead []any)) {
	for place, all := range aheads() {
		for _, ahead := range all {
			ask(place, ahead)
		}
	}
}

// anyParts are parts of all kinds that MessagePack has.
func anyParts() []any {
	return list(nil, true, false, one, api.Whole{Neg: true}, wordA, api.Word(""), api.Blob("a"), api.Blob(""), arrOf(0), dictOf(0), arrOf(1), dictOf(1), end)
}

// tooGreat are parts that it has not.
func tooGreat() []any {
	return list(below, api.Whole{Neg: true, Mag: 1<<63 + 1}, api.Whole{Neg: true, Mag: math.MaxUint64}, arr, dict, arrOf(1<<32), dictOf(1<<32), arrOf(1<<32+1), arrOf(1<<33), dictOf(1<<62), dictOf(1<<63-1), arrOf(math.MaxInt))
}

// noParts are values that are none.
func noParts() []any {
	word := wordA
	return []any{
		5, 0, -1, uint64(5), 1.5, "a", "", 'a', byte(0), []byte("a"), []any{}, map[string]any{}, []int(nil), api.Ev{}, api.OK, arrOf(-2), dictOf(-2), arrOf(math.MinInt), dictOf(math.MinInt), api.Setup{},
		&word, &one, (*api.Close)(nil), (*any)(nil), &end, struct{}{}, struct{ Neg bool }{}, func() {}, make(chan int), api.ErrState, []api.Word{"a"}, [1]any{nil}, named(true), fmt.Errorf("x"),
	}
}

type named bool

func TestP1601ZeroWaits(t *testing.T) {
	var w packout.Writer
	for range 2 {
		if w.Done() {
			t.Error("a zero one is done")
		}
	}
	if s, e := w.Step(nil); s != "\xc0" || e != api.OK || !w.Done() {
		t.Errorf("its first part tells %x, %d, done %v", s, e, w.Done())
	}
}

// asValue asks for the bytes of a value wherever one may be.
func asValue(t *testing.T, v any, want string) {
	t.Helper()
	writes(t, list(v), want)
	writes(t, list(arrOf(2), v, v, end), "\x92", want, want, "")
	writes(t, list(dictOf(2), wordB, v, wordA, v, end), "\x82", keyB, want, keyA, want, "")
}

func TestP1601Values(t *testing.T) {
	for want, v := range map[string]any{
		"\xc0": nil, "\xc2": false, "\xc3": true,
		"\xa0": api.Word(""), keyA: wordA, "\xa2\xc3\xa9": api.Word("é"), "\xa7é€\xe2\x82": api.Word("é€\xe2\x82"), "\xa1\x00": api.Word("\x00"), "\xa2\"\\": api.Word("\"\\"), "\xa1\xff": api.Word("\xff"),
		"\xc4\x00": api.Blob(""), "\xc4\x01a": api.Blob("a"), "\xc4\x02hi": api.Blob("hi"), "\xc4\x02\xff\x00": api.Blob("\xff\x00"), "\xc4\x02\xc3\xa9": api.Blob("é"),
	} {
		asValue(t, v, want)
	}
}

// TestP1601Wholes holds the bytes of numbers from 0 on, at their lengths'
// edges: in no case a number of two's complement.
func TestP1601Wholes(t *testing.T) {
	for _, c := range []struct {
		mag  uint64
		want string
	}{
		{0, "\x00"}, {1, "\x01"}, {10, "\x0a"}, {31, "\x1f"}, {32, "\x20"}, {126, "\x7e"}, {127, "\x7f"},
		{128, "\xcc\x80"}, {129, "\xcc\x81"}, {200, "\xcc\xc8"}, {254, "\xcc\xfe"}, {255, "\xcc\xff"},
		{256, "\xcd\x01\x00"}, {1000, "\xcd\x03\xe8"}, {32767, "\xcd\x7f\xff"}, {32768, "\xcd\x80\x00"}, {65535, "\xcd\xff\xff"},
		{65536, "\xce\x00\x01\x00\x00"}, {1_000_000, "\xce\x00\x0f\x42\x40"}, {1 << 31, "\xce\x80\x00\x00\x00"}, {math.MaxUint32, "\xce\xff\xff\xff\xff"},
		{1 << 32, "\xcf\x00\x00\x00\x01\x00\x00\x00\x00"}, {1_000_000_000_000, "\xcf\x00\x00\x00\xe8\xd4\xa5\x10\x00"},
		{math.MaxInt64, "\xcf\x7f\xff\xff\xff\xff\xff\xff\xff"}, {1 << 63, "\xcf\x80\x00\x00\x00\x00\x00\x00\x00"}, {math.MaxUint64, "\xcf\xff\xff\xff\xff\xff\xff\xff\xff"},
	} {
		asValue(t, api.Whole{Mag: c.mag}, c.want)
	}
}

// TestP1601BelowZero holds those of numbers below 0, likewise.
func TestP1601BelowZero(t *testing.T) {
	for _, c := range []struct {
		value int64
		want  string
	}{
		{-1, "\xff"}, {-2, "\xfe"}, {-16, "\xf0"}, {-31, "\xe1"}, {-32, "\xe0"},
		{-33, "\xd0\xdf"}, {-34, "\xd0\xde"}, {-100, "\xd0\x9c"}, {-127, "\xd0\x81"}, {-128, "\xd0\x80"},
		{-129, "\xd1\xff\x7f"}, {-255, "\xd1\xff\x01"}, {-256, "\xd1\xff\x00"}, {-257, "\xd1\xfe\xff"}, {-1000, "\xd1\xfc\x18"}, {-32767, "\xd1\x80\x01"}, {-32768, "\xd1\x80\x00"},
		{-32769, "\xd2\xff\xff\x7f\xff"}, {-65536, "\xd2\xff\xff\x00\x00"}, {-65537, "\xd2\xff\xfe\xff\xff"}, {-1_000_000, "\xd2\xff\xf0\xbd\xc0"}, {-1<<31 + 1, "\xd2\x80\x00\x00\x01"}, {-1 << 31, "\xd2\x80\x00\x00\x00"},
		{-1<<31 - 1, "\xd3\xff\xff\xff\xff\x7f\xff\xff\xff"}, {-1 << 32, "\xd3\xff\xff\xff\xff\x00\x00\x00\x00"}, {math.MinInt64 + 1, "\xd3\x80\x00\x00\x00\x00\x00\x00\x01"}, {math.MinInt64, "\xd3\x80\x00\x00\x00\x00\x00\x00\x00"},
	} {
		asValue(t, api.Whole{Neg: true, Mag: ^uint64(c.value)}, c.want)
	}
}

// TestP1601EachWholeNearZero holds all that go in up to two bytes behind the
// first one, and around each power of two: each in the fewest bytes.
func TestP1601EachWholeNearZero(t *testing.T) {
	for n := range uint64(70_000) {
		asWhole(t, n)
	}
	for shift := range 64 {
		for near := range uint64(5) {
			asWhole(t, 1<<shift+near-2)
		}
	}
}

// asWhole asks for the two numbers of a Mag.
func asWhole(t *testing.T, mag uint64) {
	t.Helper()
	for _, v := range []api.Whole{{Mag: mag}, {Neg: true, Mag: mag}} {
		want, is := headOf(v)
		wantE := api.OK
		if !is {
			wantE = api.ErrRange
		}
		var w packout.Writer
		if got, e := w.Step(v); got != want || e != wantE || w.Done() != is {
			t.Fatalf("%#v: %x, %d, done %v; not %x, %d", v, got, e, w.Done(), want, wantE)
		}
		if is {
			comesBack(t, want, list(v))
		}
	}
}

// TestP1601LongTexts holds that their bytes are counted, and not their runes,
// and that the writer itself knows no greatest one; keys too.
func TestP1601LongTexts(t *testing.T) {
	for _, c := range []struct {
		n          int
		blob, word string
	}{
		{1, "\xc4\x01", "\xa1"}, {15, "\xc4\x0f", "\xaf"}, {16, "\xc4\x10", "\xb0"}, {30, "\xc4\x1e", "\xbe"}, {31, "\xc4\x1f", "\xbf"}, {32, "\xc4\x20", "\xd9\x20"}, {33, "\xc4\x21", "\xd9\x21"}, {127, "\xc4\x7f", "\xd9\x7f"}, {128, "\xc4\x80", "\xd9\x80"},
		{200, "\xc4\xc8", "\xd9\xc8"}, {201, "\xc4\xc9", "\xd9\xc9"}, {255, "\xc4\xff", "\xd9\xff"}, {256, "\xc5\x01\x00", "\xda\x01\x00"}, {65535, "\xc5\xff\xff", "\xda\xff\xff"},
		{65536, "\xc6\x00\x01\x00\x00", "\xdb\x00\x01\x00\x00"}, {1_000_001, "\xc6\x00\x0f\x42\x41", "\xdb\x00\x0f\x42\x41"}, {1<<24 + 1, "\xc6\x01\x00\x00\x01", "\xdb\x01\x00\x00\x01"},
	} {
		for _, sign := range []string{"a", "é", "\xff"} {
			s := strings.Repeat(sign, c.n)[:c.n]
			blob, word := c.blob+s, c.word+s
			writes(t, list(api.Blob(s)), blob)
			writes(t, list(api.Word(s)), word)
			writes(t, list(dictOf(1), api.Word(s), api.Blob(s), end), "\x81", word, blob, "")
		}
	}
}

// TestP1601EachByte holds that each byte goes as it is.
func TestP1601EachByte(t *testing.T) {
	for b := range 256 {
		s := string([]byte{byte(b), 'x', byte(b)})
		writes(t, list(arrOf(2), api.Word(s), api.Blob(s), end), "\x92", "\xa3"+s, "\xc4\x03"+s, "")
		writes(t, list(dictOf(1), api.Word(s), api.Blob(s), end), "\x81", "\xa3"+s, "\xc4\x03"+s, "")
	}
}

// TestP1601KeysAlike holds that a key may come twice.
func TestP1601KeysAlike(t *testing.T) {
	writes(t, list(dictOf(2), wordA, wordB, wordA, wordB, end), "\x82", keyA, keyB, keyA, keyB, "")
}

func TestP1601Containers(t *testing.T) {
	writes(t, list(arrOf(0), end), "\x90", "")
	writes(t, list(dictOf(0), end), "\x80", "")
	writes(t, list(arrOf(1), nil, end), "\x91", "\xc0", "")
	writes(t, list(arrOf(3), nil, wordA, one, end), "\x93", "\xc0", keyA, "\x01", "")
	writes(t, list(dictOf(1), wordA, nil, end), "\x81", keyA, "\xc0", "")
	writes(t, list(arrOf(3), arrOf(0), end, arrOf(1), arrOf(0), end, end, dictOf(0), end, end), "\x93", "\x90", "", "\x91", "\x90", "", "", "\x80", "", "")
	writes(t, list(dictOf(2), wordA, dictOf(1), wordB, arrOf(1), dictOf(0), end, end, end, wordB, one, end), "\x82", keyA, "\x81", keyB, "\x91", "\x80", "", "", "", keyB, "\x01", "")
}

// counts are the bytes of counts, at their lengths' edges.
var counts = []struct {
	n             int
	array, theMap string
}{
	{0, "\x90", "\x80"}, {1, "\x91", "\x81"}, {2, "\x92", "\x82"}, {14, "\x9e", "\x8e"}, {15, "\x9f", "\x8f"}, {16, "\xdc\x00\x10", "\xde\x00\x10"}, {17, "\xdc\x00\x11", "\xde\x00\x11"}, {31, "\xdc\x00\x1f", "\xde\x00\x1f"}, {32, "\xdc\x00\x20", "\xde\x00\x20"}, {100, "\xdc\x00\x64", "\xde\x00\x64"}, {255, "\xdc\x00\xff", "\xde\x00\xff"},
	{256, "\xdc\x01\x00", "\xde\x01\x00"}, {65535, "\xdc\xff\xff", "\xde\xff\xff"}, {65536, "\xdd\x00\x01\x00\x00", "\xdf\x00\x01\x00\x00"}, {1_000_001, "\xdd\x00\x0f\x42\x41", "\xdf\x00\x0f\x42\x41"}, {1<<31 - 1, "\xdd\x7f\xff\xff\xff", "\xdf\x7f\xff\xff\xff"}, {1 << 31, "\xdd\x80\x00\x00\x00", "\xdf\x80\x00\x00\x00"}, {math.MaxUint32 - 1, "\xdd\xff\xff\xff\xfe", "\xdf\xff\xff\xff\xfe"}, {math.MaxUint32, "\xdd\xff\xff\xff\xff", "\xdf\xff\xff\xff\xff"},
}

// TestP1601Counts holds them, and that a container of a great one does not end
// ahead of its parts.
func TestP1601Counts(t *testing.T) {
	for _, c := range counts {
		writes(t, list(arrOf(c.n)), c.array)
		writes(t, list(dictOf(c.n)), c.theMap)
		if c.n < 3 {
			continue
		}
		writes(t, list(arrOf(c.n), nil, one), c.array, "\xc0", "\x01")
		writes(t, list(dictOf(c.n), wordA, one, wordB), c.theMap, keyA, "\x01", keyB)
		for k := range 3 {
			refused(t, api.ErrState, end, with(list(arrOf(c.n)), list(nil, one)[:k]...)...)
			refused(t, api.ErrState, end, with(list(dictOf(c.n)), list(wordA, one)[:k]...)...)
		}
	}
}

// TestP1601FilledToTheCount fills containers to just what their count says: an
// end is refused at each place ahead of that, and a part more at it.
func TestP1601FilledToTheCount(t *testing.T) {
	for _, n := range []int{0, 1, 2, 3, 15, 16, 17, 127, 128, 255, 256, 1000, 65535, 65536, 70_000} {
		for _, begin := range []api.Begin{arrOf(n), dictOf(n)} {
			fill(t, begin)
		}
	}
}

// fill is of one of them.
func fill(t *testing.T, begin api.Begin) {
	t.Helper()
	parts := begin.Count
	if begin.Map {
		parts *= 2
	}
	var w packout.Writer
	step := func(v any, want string, wantE api.Errno) {
		if got, e := w.Step(v); got != want || e != wantE || w.Done() {
			t.Fatalf("%#v: %#v tells %x, %d, done %v; not %x, %d", begin, v, got, e, w.Done(), want, wantE)
		}
	}
	step(begin, scalar(begin), api.OK)
	for k := range parts {
		step(end, "", api.ErrState)
		if begin.Map && k%2 == 0 {
			step(arr, "", api.ErrKind)
		} else {
			step(arr, "", api.ErrRange)
		}
		step(wordA, keyA, api.OK)
	}
	for _, v := range list(wordA, nil, one, arrOf(0), dict) {
		step(v, "", api.ErrState)
	}
	if s, e := w.Step(end); s != "" || e != api.OK || !w.Done() {
		t.Errorf("%#v: its end tells %x, %d, done %v", begin, s, e, w.Done())
	}
}

func TestP1601Examples(t *testing.T) {
	got, e := packout.All(api.Ev{Kind: api.Array, Count: 1}, api.Ev{Kind: api.Bool, Yes: true}, api.Ev{Kind: api.End})
	if got != "\x91\xc3" || e != api.OK {
		t.Errorf("%x, %d", got, e)
	}
}

// TestP1601Spec holds the example that MessagePack's own page begins with.
func TestP1601Spec(t *testing.T) {
	writes(t, list(dictOf(2), api.Word("compact"), true, api.Word("schema"), api.Whole{}, end), "\x82", "\xa7compact", "\xc3", "\xa6schema", "\x00", "")
}

// TestP1601TooGreat holds that what MessagePack has not is refused wherever it
// might come else, that it is no part of its container, and that no error
// which is named ahead of it is hidden.
func TestP1601TooGreat(t *testing.T) {
	each(func(place string, ahead []any) {
		want := api.ErrRange
		switch place {
		case key:
			want = api.ErrKind
		case full, fullMap, behind:
			want = api.ErrState
		}
		for _, v := range tooGreat() {
			refused(t, want, v, ahead...)
			agrees(t, with(ahead, v, v, wordA, v, end, v, end, end)...)
		}
	})
}

// TestP1601JustInRange holds that the least and the greatest ones are not.
func TestP1601JustInRange(t *testing.T) {
	for _, v := range list(api.Whole{Neg: true, Mag: math.MaxInt64}, api.Whole{Mag: math.MaxUint64}, api.Whole{Mag: 1 << 63}, arrOf(math.MaxUint32), dictOf(math.MaxUint32), arrOf(0), dictOf(0)) {
		each(func(place string, ahead []any) {
			switch place {
			case document, item, value:
				through(t, with(ahead, v)...)
				agrees(t, with(ahead, v, wordA, one)...)
			}
		})
	}
}

func TestP1601BehindTheEnd(t *testing.T) {
	for _, ahead := range aheads()[behind] {
		for _, v := range slices.Concat(anyParts(), tooGreat(), noParts()) {
			refused(t, api.ErrState, v, ahead...)
		}
		if !through(t, ahead...).Done() {
			t.Errorf("%s is not done", names(ahead))
		}
	}
}

// TestP1601CloseThatMayNotBe holds that there is no end of nothing, between a
// key and its value, or of one that has fewer parts than its Count says.
func TestP1601CloseThatMayNotBe(t *testing.T) {
	each(func(place string, ahead []any) {
		switch place {
		case full, fullMap:
			through(t, with(ahead, end)...)
			agrees(t, with(ahead, end)...)
		default:
			refused(t, api.ErrState, end, ahead...)
		}
	})
}

// TestP1601PartMore holds that one that has all its Count says takes no more:
// a key that is no Word is asked behind that.
func TestP1601PartMore(t *testing.T) {
	each(func(place string, ahead []any) {
		for _, v := range anyParts() {
			if v != end && (place == full || place == fullMap) {
				refused(t, api.ErrState, v, ahead...)
			}
		}
	})
}

// TestP1601NoPart holds that what is no part is ErrState wherever it comes,
// also at a key's place; so is a count below less 1.
func TestP1601NoPart(t *testing.T) {
	each(func(place string, ahead []any) {
		for _, v := range noParts() {
			refused(t, api.ErrState, v, ahead...)
		}
	})
}

func TestP1601KeyThatIsNoWord(t *testing.T) {
	each(func(place string, ahead []any) {
		for _, v := range anyParts() {
			_, isWord := v.(api.Word)
			switch place {
			case key:
				if isWord {
					through(t, with(ahead, v)...)
				} else if v != end {
					refused(t, api.ErrKind, v, ahead...)
				}
			case document, item, value:
				if v != end {
					through(t, with(ahead, v)...)
				}
			}
		}
	})
}

func TestP1601Done(t *testing.T) {
	each(func(place string, ahead []any) {
		w := through(t, ahead...)
		for range 2 {
			if w.Done() != (place == behind) {
				t.Errorf("%s: done %v", names(ahead), w.Done())
			}
		}
		goesOn(t, w, ahead)
	})
}

func TestP1601Nil(t *testing.T) {
	var none *packout.Writer
	for _, v := range slices.Concat(anyParts(), tooGreat(), noParts()) {
		if s, e := none.Step(v); s != "" || e != api.ErrState || none.Done() {
			t.Errorf("nil: %#v tells %x, %d, %v", v, s, e, none.Done())
		}
	}
}

func TestP1601All(t *testing.T) {
	pairs, one, two, shut, null := api.Ev{Kind: api.Map, Count: 1}, api.Ev{Kind: api.Array, Count: 1}, api.Ev{Kind: api.Array, Count: 2}, api.Ev{Kind: api.End}, api.Ev{}
	open, least := api.Ev{Kind: api.Array, Count: -1}, api.Ev{Kind: api.Int, Yes: true, Mag: math.MaxInt64}
	text := func(s string) api.Ev { return api.Ev{Kind: api.Text, Text: s} }
	for _, c := range []struct {
		l    []api.Ev
		want string
		e    api.Errno
	}{
		{nil, "", api.ErrMore}, {[]api.Ev{}, "", api.ErrMore}, {[]api.Ev{null}, "\xc0", api.OK}, {[]api.Ev{pairs, text("a"), one, null, shut, shut}, "\x81\xa1a\x91\xc0", api.OK}, {[]api.Ev{two, null, null, shut}, "\x92\xc0\xc0", api.OK},
		{[]api.Ev{{Kind: api.Bool, Yes: true}}, "\xc3", api.OK}, {[]api.Ev{{Kind: api.Bool}}, "\xc2", api.OK}, {[]api.Ev{{Kind: api.Int, Yes: true, Mag: 4}}, "\xfb", api.OK}, {[]api.Ev{{Kind: api.Int, Mag: 4}}, "\x04", api.OK}, {[]api.Ev{{Kind: api.Bytes, Text: "hi"}}, "\xc4\x02hi", api.OK}, {[]api.Ev{least}, "\xd3\x80\x00\x00\x00\x00\x00\x00\x00", api.OK},
		{[]api.Ev{{Kind: api.Map, Yes: true, Mag: 3, Text: "x"}, shut}, "\x80", api.OK}, {[]api.Ev{{Kind: api.Null, Yes: true, Mag: 3, Text: "x", Count: -9}}, "\xc0", api.OK}, {[]api.Ev{{Kind: api.Int, Text: "x", Count: -1}}, "\x00", api.OK}, // what a kind has not is passed by
		{[]api.Ev{one}, "\x91", api.ErrMore}, {[]api.Ev{one, null}, "\x91\xc0", api.ErrMore}, {[]api.Ev{pairs, text("a")}, "\x81\xa1a", api.ErrMore}, {[]api.Ev{pairs, text("a"), null}, "\x81\xa1a\xc0", api.ErrMore}, {[]api.Ev{one, one, null, shut}, "\x91\x91\xc0", api.ErrMore}, {[]api.Ev{{Kind: api.Array}}, "\x90", api.ErrMore},
		{[]api.Ev{null, null}, "\xc0", api.ErrState}, {[]api.Ev{pairs, text("a"), null, shut, shut, {Kind: 9}}, "\x81\xa1a\xc0", api.ErrState}, {[]api.Ev{shut}, "", api.ErrState}, {[]api.Ev{pairs, text("a"), shut, null}, "\x81\xa1a", api.ErrState},
		{[]api.Ev{two, null, shut, null}, "\x92\xc0", api.ErrState}, {[]api.Ev{two, null, null, null, shut}, "\x92\xc0\xc0", api.ErrState}, {[]api.Ev{pairs, shut}, "\x81", api.ErrState}, {[]api.Ev{pairs, text("a"), null, null}, "\x81\xa1a\xc0", api.ErrState},
		{[]api.Ev{pairs, null, shut}, "\x81", api.ErrKind}, {[]api.Ev{one, pairs, {Kind: api.Bytes}, {Kind: 9}}, "\x91\x81", api.ErrKind}, {[]api.Ev{pairs, pairs}, "\x81", api.ErrKind}, {[]api.Ev{pairs, open}, "\x81", api.ErrKind},
		{[]api.Ev{open}, "", api.ErrRange}, {[]api.Ev{open, {Kind: 9}}, "", api.ErrRange}, {[]api.Ev{one, open, shut, shut}, "\x91", api.ErrRange}, {[]api.Ev{{Kind: api.Map, Count: -1}, shut}, "", api.ErrRange}, {[]api.Ev{two, null, {Kind: api.Int, Yes: true, Mag: 1 << 63}, shut}, "\x92\xc0", api.ErrRange}, {[]api.Ev{pairs, text("a"), {Kind: api.Map, Count: 1 << 32}, shut}, "\x81\xa1a", api.ErrRange},
		{[]api.Ev{{Kind: 8}}, "", api.ErrArg}, {[]api.Ev{{Kind: -1}}, "", api.ErrArg}, {[]api.Ev{two, null, {Kind: api.Array, Count: -2}, shut, shut}, "\x92\xc0", api.ErrArg}, {[]api.Ev{pairs, {Kind: api.Map, Count: -2}}, "\x81", api.ErrArg}, {[]api.Ev{null, {Kind: 9}}, "\xc0", api.ErrArg}, {[]api.Ev{{Kind: api.Array}, {Kind: 9}}, "\x90", api.ErrArg},
	} {
		was := slices.Clone(c.l)
		if got, e := packout.All(c.l...); got != c.want || e != c.e || !slices.Equal(was, c.l) {
			t.Errorf("All of %v: %x, %d; not %x, %d", c.l, got, e, c.want, c.e)
		}
	}
}

// TestP1601Deep holds that the writer itself knows no greatest depth.
func TestP1601Deep(t *testing.T) {
	const depth = 1 << 16
	var w packout.Writer
	step := func(v any, want string, done bool) {
		if got, e := w.Step(v); got != want || e != api.OK || w.Done() != done {
			t.Fatalf("%#v: %x, %d, done %v; not %x, %v", v, got, e, w.Done(), want, done)
		}
	}
	for range depth / 2 {
		step(arrOf(2), "\x92", false)
		step(dictOf(2), "\x82", false)
		step(wordA, keyA, false)
	}
	step(true, "\xc3", false)
	for k := range depth / 2 {
		step(wordB, keyB, false)
		step(one, "\x01", false)
		step(end, "", false)
		step(nil, "\xc0", false)
		step(end, "", k == depth/2-1)
	}
}

// TestP1601EachItsOwn holds that writers do not touch one another.
func TestP1601EachItsOwn(t *testing.T) {
	var a, b packout.Writer
	turns := []struct {
		w    *packout.Writer
		v    any
		want string
	}{{&a, arrOf(2), "\x92"}, {&b, dictOf(1), "\x81"}, {&a, one, "\x01"}, {&b, wordA, keyA}, {&a, dictOf(0), "\x80"}, {&b, arrOf(1), "\x91"}, {&a, end, ""}, {&b, one, "\x01"}, {&b, end, ""}, {&b, end, ""}, {&a, end, ""}}
	for k, turn := range turns {
		if got, e := turn.w.Step(turn.v); got != turn.want || e != api.OK {
			t.Errorf("turn %d tells %x, %d; not %x", k, got, e, turn.want)
		}
	}
	if !a.Done() || !b.Done() {
		t.Errorf("done %v, %v", a.Done(), b.Done())
	}
}

// TestP1601AllWays asks all ways of a few parts, those that are refused too.
func TestP1601AllWays(t *testing.T) {
	kinds := list(nil, wordA, below, arr, arrOf(1), dictOf(1), dictOf(0), end, 5)
	ways := [][]any{{}}
	for range 4 {
		var next [][]any
		for _, way := range ways {
			for _, v := range kinds {
				agrees(t, with(way, v)...)
				next = append(next, with(way, v))
			}
		}
		ways = next
	}
}

// TestP1601AllDocuments asks all ways of a few parts that are not refused: a
// document comes back as it was, and is one to event.Check.
func TestP1601AllDocuments(t *testing.T) {
	kinds, done := list(one, wordA, arrOf(0), arrOf(1), arrOf(2), dictOf(1), dictOf(2), end), 0
	var grow func(way []any, more int)
	grow = func(way []any, more int) {
		switch whole := through(t, way...).Done(); {
		case whole:
			done++
			comesBack(t, agrees(t, way...), way)
			isDocument(t, way)
			return
		case more == 0:
			agrees(t, way...)
			return
		}
		for _, v := range kinds {
			if _, e := through(t, way...).Step(v); e == api.OK {
				grow(with(way, v), more-1)
			}
		}
	}
	grow(nil, 7)
	if done < 60 {
		t.Errorf("only %d are documents", done)
	}
}

// isDocument asks event.Check.
func isDocument(t *testing.T, parts []any) {
	t.Helper()
	var plain []api.Ev
	for _, v := range parts {
		e, _ := event.Plain(v)
		plain = append(plain, e)
	}
	if e := event.Check(plain...); e != api.OK {
		t.Fatalf("%s is no document: %d", names(parts), e)
	}
}

// TestP1601LongWay writes long ways of drawn parts, many of them refused.
func TestP1601LongWay(t *testing.T) {
	draw := draws(16)
	pieces := list(nil, true, false, one, api.Whole{Neg: true, Mag: 1<<63 - 1}, api.Whole{Neg: true, Mag: 300}, below, wordA, wordA, wordB, api.Word(strings.Repeat("é", 20)), api.Blob("\xff\x00"), api.Blob(""), arr, dict, arrOf(1), arrOf(2), dictOf(1), dictOf(0), end, end, end, end, "x", arrOf(-2))
	documents := 0
	for range 3_000 {
		var way, taken []any
		var w packout.Writer
		way = append(way, list(arrOf(1), dictOf(1), arrOf(3), dictOf(2))[draw(4)])
		for range draw(60) {
			way = append(way, pieces[draw(len(pieces))])
		}
		for _, v := range way {
			if _, e := w.Step(v); e == api.OK {
				taken = append(taken, v)
			}
		}
		s := agrees(t, way...)
		if again := agrees(t, taken...); again != s {
			t.Fatalf("%s: %x; without what was refused %x", names(way), s, again)
		}
		if w.Done() {
			documents++
			comesBack(t, s, taken)
		}
	}
	if documents < 300 {
		t.Errorf("only %d are documents", documents)
	}
}

// TestP1601DrawnWholes holds drawn numbers of each length beside two's
// complement of the language itself.
func TestP1601DrawnWholes(t *testing.T) {
	draw := draws(61)
	for range 20_000 {
		v := uint64(draw(1<<22))<<42 | uint64(draw(1<<22))<<20 | uint64(draw(1<<20))
		v >>= draw(64)
		asWhole(t, v)
		if v > math.MaxUint32 && v <= math.MaxInt64 {
			got, e := packout.All(api.Ev{Kind: api.Int, Yes: true, Mag: v})
			if want := "\xd3" + string(binary.BigEndian.AppendUint64(nil, uint64(-1-int64(v)))); got != want || e != api.OK {
				t.Fatalf("less 1 less %d: %x, %d; not %x", v, got, e, want)
			}
		}
	}
}
