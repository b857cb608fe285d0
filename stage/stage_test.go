package stage_test

import (
	"fmt"
	"math"
	"slices"
	"strings"
	"testing"

	"truchman/api"
	"truchman/event"
	"truchman/jsonin"
	"truchman/packin"
	"truchman/packout"
	"truchman/stage"
)

// Parts, by short names.
var (
	arr   = arrOf(-1)
	dict  = dictOf(-1)
	end   = api.Close{}
	one   = api.Whole{Mag: 1}
	wordA = api.Word("a")
	wordB = api.Word("b")
)

func arrOf(n int) api.Begin  { return api.Begin{Count: n} }
func dictOf(n int) api.Begin { return api.Begin{Map: true, Count: n} }

func list(parts ...any) []any { return parts }

// with tells a list with more behind it, and leaves the list as it is.
func with(l []any, more ...any) []any { return append(slices.Clone(l), more...) }

// times tells a part so many times.
func times(v any, n int) []any { return slices.Repeat([]any{v}, n) }

// wordOf is a word of a size.
func wordOf(size int) api.Word { return api.Word(strings.Repeat("w", size-1)) }

// anyParts are parts of all kinds, but those that begin to be held.
func anyParts() []any {
	return list(nil, true, false, one, api.Whole{Neg: true}, api.Whole{Neg: true, Mag: math.MaxUint64}, wordA, api.Word(""), api.Word("é\xff"), api.Blob(""), api.Blob("\x00\xff"), arrOf(0), dictOf(0), arrOf(1), dictOf(7), arrOf(math.MaxInt), dictOf(math.MaxInt), end)
}

// noParts are values that are none.
func noParts() []any {
	word := wordA
	return []any{
		5, 0, -1, uint64(5), 1.5, "a", "", 'a', byte(0), []byte("a"), []any{}, []any{nil}, map[string]any{}, []int(nil), api.Ev{}, api.OK, arrOf(-2), dictOf(-2), arrOf(math.MinInt), dictOf(math.MinInt), api.Setup{},
		&word, &one, &arr, (*api.Close)(nil), (*any)(nil), &end, struct{}{}, struct{ Map bool }{}, func() {}, make(chan int), api.ErrState, []api.Word{"a"}, [1]any{nil}, named(true), begin{Count: -1}, closed{}, fmt.Errorf("x"),
	}
}

// Types that are like those of parts, and are none of them.
type (
	named  bool
	begin  api.Begin
	closed api.Close
)

// goesOn asks that parts go on at once, all of them, as nothing is held.
func goesOn(t *testing.T, s *stage.Stage, parts ...any) {
	t.Helper()
	for k, v := range parts {
		if got, want := step(s, v), (told{parts: list(v), empty: true}); !got.same(want) {
			t.Fatalf("%s: part %d tells %v; not %v", names(parts), k, got, want)
		}
	}
}

// isHeld asks that parts are held, and how much is behind the last one.
func isHeld(t *testing.T, s *stage.Stage, size int, parts ...any) {
	t.Helper()
	for k, v := range parts {
		got, e := s.Step(v)
		if len(got) != 0 || e != api.OK || s.Empty() {
			t.Fatalf("%s: part %d tells %s, %d, empty %v", names(parts), k, names(got), e, s.Empty())
		}
	}
	if s.Held() != size {
		t.Fatalf("%s: holds %d; not %d", names(parts), s.Held(), size)
	}
}

// frees asks that an end lets all go on.
func frees(t *testing.T, s *stage.Stage, want ...any) {
	t.Helper()
	if got, all := step(s, end), (told{parts: want, empty: true}); !got.same(all) {
		t.Fatalf("an end tells %s, %d, holds %d, empty %v; not %s", names(got.parts), got.e, got.held, got.empty, names(want))
	}
}

// tooMuch asks that a part is too much, and that all is that error behind it.
func tooMuch(t *testing.T, s *stage.Stage, v any) {
	t.Helper()
	for _, v := range slices.Concat([]any{v}, anyParts(), list(arr, dict, nil, end, end), noParts(), list(v)) {
		if got, want := step(s, v), (told{e: api.ErrStage}); !got.same(want) {
			t.Fatalf("too much, or behind that: %s tells %v; not %v", name(v), got, want)
		}
	}
}

// becomes asks what a container comes to behind its end, and that nothing goes
// on ahead of that.
func becomes(t *testing.T, parts []any, want ...any) {
	t.Helper()
	s, size := stage.New(api.MaxStage), 0
	for _, v := range parts[:len(parts)-1] {
		size += sizeOf(v)
		isHeld(t, s, size, v)
	}
	frees(t, s, want...)
	agrees(t, api.MaxStage, parts...)
}

func TestP1701Examples(t *testing.T) {
	becomes(t, list(arr, nil, end), arrOf(1), nil, end)
}

// TestP1701New holds which limit counts: the nearer end of those that may not
// be.
func TestP1701New(t *testing.T) {
	if api.MaxStage != 2000 {
		t.Fatalf("MaxStage is %d", api.MaxStage)
	}
	for limit, want := range map[int]int{
		math.MinInt: 0, math.MinInt + 1: 0, -1 << 32: 0, -2001: 0, -2: 0, -1: 0, 0: 0,
		1: 1, 2: 2, 700: 700, 1999: 1999, 2000: 2000, 2001: 2000, 4000: 2000, 1 << 31: 2000, 1 << 32: 2000, 1<<32 + 1: 2000, math.MaxInt - 1: 2000, math.MaxInt: 2000,
	} {
		s := stage.New(limit)
		if s == nil || s == stage.New(limit) || s.Held() != 0 || !s.Empty() {
			t.Fatalf("New(%d): %v", limit, s)
		}
		if want > 0 {
			isHeld(t, s, want, with(list(arr), times(nil, want-1)...)...)
			tooMuch(t, s, nil)
		} else {
			tooMuch(t, s, dict)
		}
	}
}

// TestP1701GoesOn holds that a part goes on by itself as long as no container
// of count -1 is open, however great it is, and whatever it is next to.
func TestP1701GoesOn(t *testing.T) {
	great := list(wordOf(1<<20), api.Blob(strings.Repeat("\xff", 70_000)))
	for _, limit := range []int{-5, 0, 1, 2, 2000, 9999} {
		s := stage.New(limit)
		goesOn(t, s, slices.Concat(anyParts(), great)...)
		for _, v := range anyParts() {
			goesOn(t, s, v, v, arrOf(2), v, dictOf(1), v, v, end, v, end, end, v)
		}
		goesOn(t, s, times(arrOf(1), 10_000)...)
		goesOn(t, s, times(end, 10_001)...)
	}
}

// TestP1701GoesOnBehind holds that so it is again behind what was held.
func TestP1701GoesOnBehind(t *testing.T) {
	s := stage.New(9)
	for _, v := range anyParts() {
		goesOn(t, s, v, arrOf(3), v, wordOf(3000))
		isHeld(t, s, 2, arr, nil)
		frees(t, s, arrOf(1), nil, end)
		goesOn(t, s, v, end, v, wordOf(3000))
	}
}

// TestP1701IsHeld holds that each part is held from the begin on, and goes on
// as it was.
func TestP1701IsHeld(t *testing.T) {
	for _, v := range anyParts() {
		in, size := list(v), sizeOf(v)
		switch v.(type) {
		case api.Begin:
			in, size = list(v, end), 2
		case api.Close:
			continue
		}
		for _, ahead := range [][]any{{}, {arrOf(1)}, {wordA}, {end}, {dictOf(3), wordA}} {
			s := stage.New(99)
			goesOn(t, s, ahead...)
			isHeld(t, s, 1+size, with(list(arr), in...)...)
			frees(t, s, slices.Concat(list(arrOf(1)), in, list(end))...)
			isHeld(t, s, 3+2*size, slices.Concat(list(dict, wordA), in, in)...)
			frees(t, s, slices.Concat(list(dictOf(1), wordA), in, in, list(end))...)
			goesOn(t, s, ahead...)
		}
	}
}

// TestP1701Counts holds the counts of arrays, and of maps: half their parts.
func TestP1701Counts(t *testing.T) {
	for _, n := range []int{0, 1, 2, 3, 4, 5, 15, 16, 17, 31, 127, 128, 255, 256, 257, 998, 999, 1000, 1997, 1998, 1999} {
		for _, v := range list(nil, false, one, api.Word(""), api.Blob("")) {
			parts := times(v, n)
			becomes(t, slices.Concat(list(arr), parts, list(end)), slices.Concat(list(arrOf(n)), parts, list(end))...)
			becomes(t, slices.Concat(list(dict), parts, list(end)), slices.Concat(list(dictOf(n/2)), parts, list(end))...)
		}
	}
}

// TestP1701CountsMembers holds that a map's keys are not asked for: that is a
// reader's to do, and a writer's.
func TestP1701CountsMembers(t *testing.T) {
	becomes(t, list(dict, wordA, one, wordB, nil, end), dictOf(2), wordA, one, wordB, nil, end)
	becomes(t, list(dict, wordA, wordA, wordA, wordA, end), dictOf(2), wordA, wordA, wordA, wordA, end)
	becomes(t, list(dict, wordA, end), dictOf(0), wordA, end)
	becomes(t, list(dict, wordA, one, wordB, end), dictOf(1), wordA, one, wordB, end)
	becomes(t, list(dict, nil, arr, end, end), dictOf(1), nil, arrOf(0), end, end)
	becomes(t, list(dict, arr, one, one, end, dict, end, end), dictOf(1), arrOf(2), one, one, end, dictOf(0), end, end)
}

// TestP1701WithinOneAnother holds that each container has its own count, and is
// one part of the one around it.
func TestP1701WithinOneAnother(t *testing.T) {
	becomes(t, list(arr, arr, end, end), arrOf(1), arrOf(0), end, end)
	becomes(t, list(arr, dict, end, dict, end, nil, end), arrOf(3), dictOf(0), end, dictOf(0), end, nil, end)
	becomes(t, list(dict, wordA, dict, wordB, arr, one, one, one, end, end, end), dictOf(1), wordA, dictOf(1), wordB, arrOf(3), one, one, one, end, end, end)
	becomes(t, list(arr, nil, arr, nil, nil, arr, nil, nil, nil, end, nil, nil, end, nil, end), arrOf(3), nil, arrOf(5), nil, nil, arrOf(3), nil, nil, nil, end, nil, nil, end, nil, end)
	becomes(t, list(arr, arr, one, end, arr, one, one, end, arr, end, end), arrOf(3), arrOf(1), one, end, arrOf(2), one, one, end, arrOf(0), end, end)
}

// TestP1701KnownOnesWithin holds that a count that was told is left as it is,
// even if it is not what comes, and that its parts are its own.
func TestP1701KnownOnesWithin(t *testing.T) {
	for _, n := range []int{0, 1, 2, 3, 16, 1_000_001, math.MaxInt} {
		for _, b := range []api.Begin{arrOf(n), dictOf(n)} {
			for k := range 4 {
				in := slices.Concat(list(b), times(nil, k), list(end))
				becomes(t, slices.Concat(list(arr), in, list(end)), slices.Concat(list(arrOf(1)), in, list(end))...)
				becomes(t, slices.Concat(list(dict, wordA), in, in, list(one, end)), slices.Concat(list(dictOf(2), wordA), in, in, list(one, end))...)
				becomes(t, slices.Concat(list(arr, b, dict), in, list(true, end, end, end)), slices.Concat(list(arrOf(1), b, dictOf(1)), in, list(true, end, end, end))...)
			}
		}
	}
}

// TestP1701CloseIsOfTheInnermost holds that an end is counted to the container
// that began last, of whichever count, be it full or not.
func TestP1701CloseIsOfTheInnermost(t *testing.T) {
	s := stage.New(99)
	isHeld(t, s, 5, arr, arrOf(2), nil, nil, nil)
	isHeld(t, s, 6, end)
	frees(t, s, arrOf(1), arrOf(2), nil, nil, nil, end, end)
	isHeld(t, s, 4, dict, arrOf(0), end, dictOf(9))
	isHeld(t, s, 7, arr, end, end)
	frees(t, s, dictOf(1), arrOf(0), end, dictOf(9), arrOf(0), end, end, end)
	goesOn(t, s, arrOf(1), dictOf(2))
	isHeld(t, s, 1, arr)
	frees(t, s, arrOf(0), end)
	goesOn(t, s, end, end, end, nil)
}

// TestP1701CloseOfNothing holds that it goes by, and that the next container is
// none the less.
func TestP1701CloseOfNothing(t *testing.T) {
	for n := range 5 {
		s := stage.New(3)
		for range 3 {
			goesOn(t, s, times(end, n)...)
			isHeld(t, s, 3, arr, arr, end)
			frees(t, s, arrOf(1), arrOf(0), end, end)
			goesOn(t, s, times(end, n)...)
			isHeld(t, s, 3, dict, nil, nil)
			frees(t, s, dictOf(1), nil, nil, end)
		}
	}
}

// TestP1701Deep holds that there is no greatest depth but the limit's.
func TestP1701Deep(t *testing.T) {
	for _, b := range []api.Begin{arr, dict, arrOf(1), dictOf(4)} {
		n := 1000
		becomes(t, slices.Concat(list(arr), times(b, n-1), times(end, n)), counted(slices.Concat(list(arr), times(b, n-1), times(end, n)))...)
	}
	s := stage.New(1)
	goesOn(t, s, times(dictOf(1), 1<<16-1)...)
	isHeld(t, s, 1, arr)
	frees(t, s, arrOf(0), end)
	goesOn(t, s, times(end, 1<<16-1)...)
}

// limits are some to ask at their edges.
func limits() []int {
	return []int{1, 2, 3, 4, 5, 8, 9, 10, 63, 64, 99, 100, 201, 1000, 1998, 1999, 2000}
}

// TestP1701LimitOfParts holds that a container of the limit's size goes on, its
// end not being held; one of a part more does not.
func TestP1701LimitOfParts(t *testing.T) {
	for _, limit := range limits() {
		in := times(false, limit-1)
		for _, v := range with(anyParts(), arr, dict) {
			s := stage.New(limit)
			for range 3 {
				isHeld(t, s, limit, with(list(arr), in...)...)
				frees(t, s, slices.Concat(list(arrOf(limit-1)), in, list(end))...)
				goesOn(t, s, true)
			}
			if v == any(end) {
				continue
			}
			isHeld(t, s, limit, with(list(dict), in...)...)
			tooMuch(t, s, v)
		}
	}
}

// TestP1701LimitOfBytes holds that a text, or bytes, count with each byte.
func TestP1701LimitOfBytes(t *testing.T) {
	for _, limit := range limits()[1:] {
		for size := 1; size < limit; size += 1 + size/2 {
			rest := limit - 1 - size
			for _, v := range list(wordOf(size), api.Blob(wordOf(size)), api.Word(strings.Repeat("é", size)[:size-1])) {
				s := stage.New(limit)
				isHeld(t, s, limit, with(list(arr, v), times(one, rest)...)...)
				frees(t, s, slices.Concat(list(arrOf(1+rest), v), times(one, rest), list(end))...)
				isHeld(t, s, limit-size, with(list(dict), times(one, rest)...)...)
				tooMuch(t, s, wordOf(size+1))
				s = stage.New(limit)
				isHeld(t, s, limit-size, with(list(dict), times(one, rest)...)...)
				isHeld(t, s, limit, v)
				tooMuch(t, s, api.Blob(""))
			}
		}
		s := stage.New(limit)
		isHeld(t, s, 1, arr)
		tooMuch(t, s, wordOf(1<<20))
	}
}

// TestP1701LimitOfEnds holds that an inner container's end is held as each
// other part, and may be what is too much.
func TestP1701LimitOfEnds(t *testing.T) {
	for _, limit := range limits()[1:] {
		n := limit / 2
		for _, inner := range []api.Begin{arr, dict, arrOf(0), dictOf(3)} {
			s := stage.New(limit)
			begins := with(list(arr), times(inner, n)...)
			isHeld(t, s, 1+n, begins...)
			isHeld(t, s, limit, times(end, limit-1-n)...)
			if 2*n+1 > limit {
				tooMuch(t, s, end)
			} else {
				frees(t, s, counted(with(begins, times(end, n+1)...))...)
			}
			agrees(t, limit, with(begins, times(end, n+1)...)...)
		}
	}
}

// TestP1701LimitOfNone holds that one that may hold nothing lets go on all but
// the containers of no count.
func TestP1701LimitOfNone(t *testing.T) {
	for _, limit := range []int{0, -1, math.MinInt} {
		for _, b := range []api.Begin{arr, dict} {
			s := stage.New(limit)
			goesOn(t, s, anyParts()...)
			goesOn(t, s, arrOf(1))
			tooMuch(t, s, b)
		}
	}
}

// TestP1701NoPart holds that what is none is ErrState, time and again, with
// nothing changed: also where a part would be too much.
func TestP1701NoPart(t *testing.T) {
	in := list(arr, wordA, arrOf(1), dict, wordB, true, end, end)
	for _, v := range noParts() {
		s := stage.New(10)
		none := func(held int) {
			t.Helper()
			for range 2 {
				if got, want := step(s, v), (told{e: api.ErrState, held: held, empty: held == 0}); !got.same(want) {
					t.Fatalf("%s tells %v; not %v", name(v), got, want)
				}
			}
		}
		for range 2 {
			size := 0
			none(0)
			goesOn(t, s, arrOf(1))
			none(0)
			for _, part := range in {
				size += sizeOf(part)
				isHeld(t, s, size, part)
				none(size)
			}
			frees(t, s, arrOf(2), wordA, arrOf(1), dictOf(1), wordB, true, end, end, end)
			none(0)
			goesOn(t, s, end)
		}
		isHeld(t, s, 10, with(list(dict), times(nil, 9)...)...)
		none(10)
		tooMuch(t, s, nil)
	}
}

// TestP1701NoPartsAmong holds that those are not counted to any container.
func TestP1701NoPartsAmong(t *testing.T) {
	way := list(arr, nil, dict, wordA, one, end, arrOf(1), nil, end, end, true, dict, end)
	for _, v := range noParts() {
		var among, want []any
		for _, part := range way {
			among = append(among, v, part, v)
		}
		want = agrees(t, 10, way...)
		if got := agrees(t, 10, among...); !same(got, want) {
			t.Errorf("with %s among them: %s; not %s", name(v), names(got), names(want))
		}
	}
}

// TestP1701Error holds that all that was held goes, from whatever it came.
func TestP1701Error(t *testing.T) {
	for _, held := range [][]any{{arr}, {dict, wordA}, {arr, arr, end}, {arr, arrOf(2), nil}, {dict, wordA, dict, end}} {
		for _, v := range list(arrOf(2), end, wordA) {
			s := stage.New(9)
			goesOn(t, s, v)
			isHeld(t, s, 5, padded(held, 5)...)
			tooMuch(t, s, wordOf(5))
		}
	}
}

// padded tells parts with as many more as make that size.
func padded(parts []any, size int) []any {
	for _, v := range parts {
		size -= sizeOf(v)
	}
	return with(parts, times(nil, size)...)
}

func TestP1701Nil(t *testing.T) {
	var none *stage.Stage
	for _, s := range []*stage.Stage{none, {}, new(stage.Stage)} {
		for _, v := range slices.Concat(anyParts(), list(arr, nil, end, dict), noParts()) {
			if got, want := step(s, v), (told{e: api.ErrState}); !got.same(want) {
				t.Fatalf("%s tells %v; not %v", name(v), got, want)
			}
		}
	}
}

// TestP1701Asks holds that Held and Empty change nothing, and are the same time
// and again.
func TestP1701Asks(t *testing.T) {
	way := list(nil, arr, nil, dict, wordA, one, end, end, true, arr, wordOf(9), end)
	s := stage.New(9)
	for k, want := range model(9, way) {
		got := step(s, way[k])
		for range 3 {
			again := told{parts: got.parts, e: got.e, held: s.Held(), empty: s.Empty()}
			if !got.same(want) || !again.same(want) {
				t.Errorf("part %d: %v, %v; not %v", k, got, again, want)
			}
		}
	}
}

// TestP1701EachItsOwn holds that stages do not touch one another.
func TestP1701EachItsOwn(t *testing.T) {
	a, b := stage.New(3), stage.New(9)
	isHeld(t, a, 2, arr, nil)
	goesOn(t, b, nil, end)
	isHeld(t, b, 3, dict, wordA)
	isHeld(t, a, 3, nil)
	isHeld(t, b, 4, arr)
	tooMuch(t, a, nil)
	isHeld(t, b, 5, end)
	frees(t, b, dictOf(1), wordA, arrOf(0), end, end)
}

// TestP1701AnswersAreNew holds that who writes into an answer, or behind it,
// changes nothing that is held, or told later.
func TestP1701AnswersAreNew(t *testing.T) {
	way := list(wordA, arr, nil, dict, wordB, one, end, end, true, dict, wordA, arr, end, end, arr, end, end, one)
	s := stage.New(99)
	var answers [][]any
	for k, want := range model(99, way) {
		got := step(s, way[k])
		if !got.same(want) {
			t.Fatalf("part %d tells %v; not %v", k, got, want)
		}
		for n, was := range answers {
			if !same(was, times("mine", len(was))) {
				t.Errorf("part %d wrote into answer %d", k, n)
			}
		}
		mine := got.parts[:cap(got.parts)]
		for n := range mine {
			mine[n] = "mine"
		}
		answers = append(answers, mine)
	}
}

// TestP1701AllWays asks all ways of a few parts, and so each beginning of them,
// at narrow limits and a wide one.
func TestP1701AllWays(t *testing.T) {
	kinds := list(nil, wordA, arr, dict, arrOf(1), end, 5)
	ways := [][]any{{}}
	for range 6 {
		var next [][]any
		for _, way := range ways {
			for _, v := range kinds {
				next = append(next, with(way, v))
			}
		}
		ways = next
	}
	for _, way := range ways {
		for _, limit := range []int{0, 1, 2, 3, 4, 5, 2000} {
			agrees(t, limit, way...)
		}
	}
}

// TestP1701LongWay asks long ways of drawn parts.
func TestP1701LongWay(t *testing.T) {
	draw := draws(17)
	pieces := slices.Concat(list(arr, arr, dict, dict, end, end, end, end, end, end, end, wordOf(20), api.Blob(wordOf(50)), "x", arrOf(-2)), anyParts())
	freed := 0
	for range 3_000 {
		var way []any
		for range draw(120) {
			way = append(way, pieces[draw(len(pieces))])
		}
		limit := []int{draw(30), draw(300), 2000}[draw(3)]
		for _, v := range agrees(t, limit, way...) {
			if b, is := v.(api.Begin); is && b.Count > 1 && b.Count < 7 {
				freed++
			}
		}
	}
	if freed < 1000 {
		t.Errorf("only %d counts are known", freed)
	}
}

// document grows one of JSON.
func document(draw func(int) int, depth int) string {
	kind := draw(8)
	if depth == 0 {
		kind = draw(5)
	}
	if kind < 5 {
		return []string{"null", "true", "-7", "123456", `"t\u00e9xt"`}[kind]
	}
	var items []string
	for k := range draw(5) {
		item := document(draw, depth-1)
		if kind == 7 {
			item = fmt.Sprintf(`"k%d":%s`, k, item)
		}
		items = append(items, item)
	}
	if kind == 7 {
		return "{" + strings.Join(items, ",") + "}"
	}
	return "[" + strings.Join(items, ",") + "]"
}

// TestP1701Documents holds that a document of JSON, whose containers never have
// a count, is one with counts behind its way, that MessagePack takes and tells
// back; and that it is the same parts.
func TestP1701Documents(t *testing.T) {
	draw, containers := draws(99), 0
	for range 2_000 {
		s := document(draw, 6)
		parts, e := jsonin.All(s, 16)
		if e != api.OK {
			t.Fatalf("%q: %d", s, e)
		}
		counts := ofAll(t, parts)
		if len(parts) > 1 {
			containers++
		}
		if e := event.Check(counts...); e != api.OK {
			t.Fatalf("%q: %v is no document: %d", s, counts, e)
		}
		pack, e := packout.All(counts...)
		if e != api.OK {
			t.Fatalf("%q: packout tells %d", s, e)
		}
		if back, e := packin.All(pack, 16); !slices.Equal(back, counts) || e != api.OK {
			t.Fatalf("%q: %v, %d; not %v", s, back, e, counts)
		}
		for k := range counts {
			if counts[k].Kind == api.Array || counts[k].Kind == api.Map {
				counts[k].Count = -1
			}
		}
		if !slices.Equal(counts, parts) {
			t.Fatalf("%q: %v; not %v", s, counts, parts)
		}
	}
	if containers < 500 {
		t.Errorf("only %d are containers", containers)
	}
}

// ofAll tells plain parts behind their way through a stage.
func ofAll(t *testing.T, parts []api.Ev) []api.Ev {
	t.Helper()
	var all []api.Ev
	s := stage.New(api.MaxStage)
	for _, part := range parts {
		v, _ := event.Of(part)
		on, e := s.Step(v)
		if e != api.OK {
			t.Fatalf("%v: %d", parts, e)
		}
		for _, v := range on {
			plain, _ := event.Plain(v)
			all = append(all, plain)
		}
	}
	if !s.Empty() || s.Held() != 0 {
		t.Fatalf("%v: holds %d", parts, s.Held())
	}
	return all
}
