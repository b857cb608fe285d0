package event_test

import (
	"errors"
	"fmt"
	"math"
	"reflect"
	"runtime"
	"slices"
	"strings"
	"testing"

	"truchman/api"
	"truchman/event"
)

// part is one as a value and as a plain one, that has nothing but what its
// kind has.
type part struct {
	v     any
	plain api.Ev
	size  int
}

// parts are some of each kind, each unlike all others.
func parts() []part {
	all := []part{
		{nil, api.Ev{Kind: 0}, 1},
		{false, api.Ev{Kind: 1}, 1},
		{true, api.Ev{Kind: 1, Yes: true}, 1},
		{api.Close{}, api.Ev{Kind: 7}, 1},
	}
	for _, mag := range []uint64{0, 1, 5, math.MaxInt64, 1 << 63, math.MaxUint64} {
		all = append(all,
			part{api.Whole{Mag: mag}, api.Ev{Kind: 2, Mag: mag}, 1},
			part{api.Whole{Neg: true, Mag: mag}, api.Ev{Kind: 2, Yes: true, Mag: mag}, 1})
	}
	for _, s := range []string{"", "t", "abc", "\x00", "é", "\xff\xc3", "null", strings.Repeat("x", api.MaxText), strings.Repeat("y", 70_000)} {
		all = append(all,
			part{api.Word(s), api.Ev{Kind: 3, Text: s}, 1 + len(s)},
			part{api.Blob(s), api.Ev{Kind: 4, Text: s}, 1 + len(s)})
	}
	for _, n := range []int{-1, 0, 1, 2, 16, 1_000_000, math.MaxInt32, math.MaxInt} {
		all = append(all,
			part{api.Begin{Count: n}, api.Ev{Kind: 5, Count: n}, 1},
			part{api.Begin{Map: true, Count: n}, api.Ev{Kind: 6, Count: n}, 1})
	}
	return all
}

// Types that are like those of parts, and are none of them.
type (
	myBool  bool
	myWhole api.Whole
	myWord  api.Word
	myClose api.Close
)

// strangers are no parts; some can't be held against each other by ==.
func strangers() []any {
	var (
		noWhole *api.Whole
		noWord  *api.Word
	)
	word, yes := api.Word("t"), true
	all := []any{
		0, 1, -1, int64(5), uint64(5), 1.5, 'a', byte(7), "", "t", "null",
		[]byte("t"), []byte(nil), []any{}, []any{nil}, map[string]any{}, func() {}, make(chan int), struct{}{}, errors.New("t"), api.OK, api.ErrKind,
		myBool(true), myWhole{Mag: 5}, myWord("t"), myClose{},
		noWhole, noWord, &word, &yes, &api.Whole{}, &api.Begin{}, &api.Close{}, []api.Word{"t"}, [1]api.Word{"t"}, []api.Ev{},
		api.Ev{}, api.Ev{Kind: api.Text, Text: "t"}, &api.Ev{}, api.Setup{},
	}
	for _, n := range []int{-2, -3, math.MinInt32, math.MinInt} {
		all = append(all, api.Begin{Count: n}, api.Begin{Map: true, Count: n})
	}
	return all
}

// shown tells a value in few words.
func shown(v any) string {
	s := fmt.Sprintf("%#v", v)
	return s[:min(len(s), 90)]
}

// filled has something in each field that its kind has not.
func filled(e api.Ev) api.Ev {
	if e.Kind != api.Bool && e.Kind != api.Int {
		e.Yes = true
	}
	if e.Kind != api.Int {
		e.Mag = 77
	}
	if e.Kind != api.Text && e.Kind != api.Bytes {
		e.Text = "beside"
	}
	if e.Kind != api.Array && e.Kind != api.Map {
		e.Count = -9
	}
	return e
}

func TestP901Of(t *testing.T) {
	for _, p := range parts() {
		for _, e := range []api.Ev{p.plain, filled(p.plain)} {
			if v, is := event.Of(e); !is || v != p.v || reflect.TypeOf(v) != reflect.TypeOf(p.v) {
				t.Errorf("Of(%s) = %s, %v; not %s", shown(e), shown(v), is, shown(p.v))
			}
		}
	}
}

// ofNone asks that a plain one is no part.
func ofNone(t *testing.T, e api.Ev) {
	t.Helper()
	if v, is := event.Of(e); v != nil || is {
		t.Errorf("Of(%s) = %s, %v", shown(e), shown(v), is)
	}
}

func TestP901OfOtherKinds(t *testing.T) {
	for _, k := range []int{-1, -2, -7, 8, 9, 10, 15, 16, 255, 256, 257, 1 << 32, 1<<32 + 1, math.MaxInt, math.MinInt} {
		ofNone(t, api.Ev{Kind: k})
		ofNone(t, api.Ev{Kind: k, Yes: true, Mag: 5, Text: "t", Count: 2})
	}
}

// TestP901OfCounts holds that a count below -1 counts where a container
// begins, and nowhere else.
func TestP901OfCounts(t *testing.T) {
	for _, n := range []int{-2, -3, -1 << 32, math.MinInt + 1, math.MinInt} {
		for k := range 8 {
			e := api.Ev{Kind: k, Yes: true, Mag: 5, Text: "t", Count: n}
			if k == api.Array || k == api.Map {
				ofNone(t, e)
			} else if _, is := event.Of(e); !is {
				t.Errorf("Of(%s) is no part", shown(e))
			}
		}
	}
}

func TestP901Plain(t *testing.T) {
	for _, p := range parts() {
		if e, is := event.Plain(p.v); e != p.plain || !is {
			t.Errorf("Plain(%s) = %s, %v; not %s", shown(p.v), shown(e), is, shown(p.plain))
		}
		v, _ := event.Of(filled(p.plain))
		if e, is := event.Plain(v); e != p.plain || !is {
			t.Errorf("%s is %s, %v behind its way there and back", shown(p.plain), shown(e), is)
		}
	}
}

func TestP901PlainOfNone(t *testing.T) {
	for _, v := range strangers() {
		if e, is := event.Plain(v); e != (api.Ev{}) || is {
			t.Errorf("Plain(%s) = %s, %v", shown(v), shown(e), is)
		}
	}
}

func TestP901Same(t *testing.T) {
	for a, p := range parts() {
		for b, q := range parts() {
			if got := event.Same(p.v, q.v); got != (a == b) {
				t.Errorf("Same(%s, %s) = %v", shown(p.v), shown(q.v), got)
			}
		}
	}
}

// TestP901SameOfNone holds that what is no part is like nothing, itself among
// it, and that nothing panics where == would.
func TestP901SameOfNone(t *testing.T) {
	for _, v := range strangers() {
		for _, w := range strangers() {
			if event.Same(v, w) {
				t.Errorf("%s and %s are alike", shown(v), shown(w))
			}
		}
		if event.Same(v, v) {
			t.Errorf("%s is like itself", shown(v))
		}
		for _, p := range parts() {
			if event.Same(v, p.v) || event.Same(p.v, v) {
				t.Errorf("%s and %s are alike", shown(v), shown(p.v))
			}
		}
	}
}

// panicOf tells what MustWord panics with, of v.
func panicOf(v any) (p any) {
	defer func() { p = recover() }()
	event.MustWord(v)
	return nil
}

func TestP901MustWord(t *testing.T) {
	for _, p := range parts() {
		if p.plain.Kind != api.Text {
			if _, ok := panicOf(p.v).(*runtime.TypeAssertionError); !ok {
				t.Errorf("MustWord(%s): no assertion panics", shown(p.v))
			}
		} else if got := event.MustWord(p.v); got != p.plain.Text {
			t.Errorf("MustWord(%s) = %s", shown(p.v), shown(got))
		}
	}
	for _, v := range strangers() {
		if _, ok := panicOf(v).(*runtime.TypeAssertionError); !ok {
			t.Errorf("MustWord(%s): no assertion panics", shown(v))
		}
	}
}

func TestP901Size(t *testing.T) {
	for _, p := range parts() {
		if got := event.Size(p.v); got != p.size {
			t.Errorf("Size(%s) = %d, not %d", shown(p.v), got, p.size)
		}
	}
	for _, v := range strangers() {
		if got := event.Size(v); got != 0 {
			t.Errorf("Size(%s) = %d, not 0", shown(v), got)
		}
	}
}

// kinds has a letter for each kind at the place of its number.
const kinds = "nbity[{."

// read tells parts by letters: n null, b a bool, i a number, t a text, y bytes,
// [ and { an array and a map of -1, 0 to 3 an array and A to D a map of 0 to 3,
// ( and < an array and a map of -2, . an end; others are of no kind. Each has
// something in the fields that its kind has not.
func read(letters string) []api.Ev {
	var l []api.Ev
	for _, r := range letters {
		l = append(l, filled(letter(r)))
	}
	return l
}

func letter(r rune) api.Ev {
	switch {
	case r >= '0' && r <= '3':
		return array(int(r - '0'))
	case r >= 'A' && r <= 'D':
		return dict(int(r - 'A'))
	case r == '(':
		return array(-2)
	case r == '<':
		return dict(-2)
	}
	return api.Ev{Kind: strings.IndexRune(kinds, r), Count: -1}
}

func array(n int) api.Ev { return api.Ev{Kind: api.Array, Count: n} }

func dict(n int) api.Ev { return api.Ev{Kind: api.Map, Count: n} }

// tells asks what Check tells of each of some parts, that are told by letters.
func tells(t *testing.T, want api.Errno, all string) {
	t.Helper()
	for _, letters := range strings.Fields(all) {
		if got := event.Check(read(letters)...); got != want {
			t.Errorf("Check(%s) = %d, not %d", letters, got, want)
		}
	}
}

func TestP902Documents(t *testing.T) {
	tells(t, api.OK, "n b i t y")
	tells(t, api.OK, "[. [n. [nn. [nbity. [[.. [[.[.. 0. 1n. 2nn. 3nbi. 1t. 2tt. 2yt. [tn.")
	tells(t, api.OK, "{. {tn. {tt. {tb. {tntb. {tttt. A. Btn. Btt. Ctntb. Dtitntt.")
	tells(t, api.OK, "11n.. 3A.0.[.. 1[nnnn.. [0.1n.. {t{.t[.. {t1n.tBty.. Ct[tt.t{tt.. BtBtBtn... Bt{tn.. {t{t[...")
	for _, l := range [][]api.Ev{{array(-1), {}, {Kind: api.End}}, {{}}, {{Kind: api.Map}, {Kind: api.End}}} {
		if got := event.Check(l...); got != api.OK {
			t.Errorf("Check(%v) = %d, not OK", l, got)
		}
	}
}

func TestP902More(t *testing.T) {
	if got := event.Check(); got != api.ErrMore {
		t.Errorf("Check() = %d, not ErrMore", got)
	}
	if got := event.Check([]api.Ev{}...); got != api.ErrMore {
		t.Errorf("Check of an empty list = %d, not ErrMore", got)
	}
	tells(t, api.ErrMore, "[ [n [nn [[. [[.n 1 1n 2 2n 2nn 3n 10. [1n.")
	tells(t, api.ErrMore, "{ {t {tn {tnt {t{. {t{.t B Bt Btn C Ctn Ctnt Ctntn")
	// At its End alone is told that it has too many.
	tells(t, api.ErrMore, "0 0n 0nn 1nn 1nnnn A At Atn Btnt Btntn Btntntn 1[nn 0[. 01n.")
}

func TestP902SecondDocument(t *testing.T) {
	for _, first := range strings.Fields("n t y [. 0. 1n. {. A. Btn. [[..") {
		tells(t, api.OK, first)
		for _, next := range strings.Fields("n b i t y [ { 0 1 A B ( < . ? nn n( [. {n") {
			tells(t, api.ErrForm, first+next)
		}
	}
}

func TestP902EndOfNothing(t *testing.T) {
	tells(t, api.ErrForm, ". .. .n n. nn. [.. 0.. [n.. {tn.. 1n.. [[... .[ .?")
}

func TestP902Counts(t *testing.T) {
	tells(t, api.ErrForm, "0n. 0nn. 1. 1nn. 2. 2n. 2nnn. 3nn. 3nnnn. 01n.. 00... 0[.. 1[.[.. [1. [0n.")
	tells(t, api.ErrForm, "Atn. Atntn. B. Btntn. C. Ctn. Ctntntn. Dtntn. AtA.. BtA.tA.. {tB. {tAtn.")
	// A map has two a count, and no half ones.
	tells(t, api.ErrForm, "At. Bt. Btnt. Ctnt. Ctntnt. Dtntnt. {t. {tnt. {tntnt. {t[.t. {t{t. {t1t.t.")
}

// TestP902GreatCounts holds that no count is taken for another one where twice
// it is no int.
func TestP902GreatCounts(t *testing.T) {
	for _, n := range []int{4, 1_000_000, math.MaxInt32, 1 << 32, 1 << 61, 1 << 62, 1<<62 + 1, math.MaxInt - 1, math.MaxInt} {
		for _, inside := range strings.Fields(". tn. tntn. tntntn. tntntntntn. n. nnn.") {
			for _, begin := range []api.Ev{array(n), dict(n)} {
				want := api.ErrForm
				switch {
				case inside[0] == 'n' && begin.Kind == api.Map:
					want = api.ErrKind
				case n == 4 && inside == "tntn." && begin.Kind == api.Array:
					want = api.OK
				}
				l := append([]api.Ev{begin}, read(inside)...)
				if got := event.Check(l...); got != want {
					t.Errorf("Check(%v) = %d, not %d", l, got, want)
				}
			}
		}
		if got := event.Check(array(n)); got != api.ErrMore {
			t.Errorf("Check of an array of %d that begins = %d", n, got)
		}
	}
}

func TestP902ManyParts(t *testing.T) {
	for _, n := range []int{255, 256, 257, 65_535, 65_536, 65_537, 1_000_000} {
		texts := slices.Repeat([]api.Ev{{Kind: api.Text, Text: "t"}}, 2*n)
		for _, say := range []int{-1, n - 1, n, n + 1} {
			want := api.ErrForm
			if say == -1 || say == n {
				want = api.OK
			}
			end := api.Ev{Kind: api.End}
			if got := event.Check(slices.Concat([]api.Ev{array(say)}, texts[:n], []api.Ev{end})...); got != want {
				t.Errorf("an array of %d with %d in it: %d", say, n, got)
			}
			if got := event.Check(slices.Concat([]api.Ev{dict(say)}, texts, []api.Ev{end})...); got != want {
				t.Errorf("a map of %d with %d in it: %d", say, n, got)
			}
		}
	}
}

func TestP902Keys(t *testing.T) {
	for _, ahead := range strings.Fields("{ {tn {tt {t[. {t{. {t1n. {tntn A B Btn C Ctn [{ [n{ 1A {t{ {t[{ BtB [{.{ [[.{") {
		tells(t, api.ErrMore, ahead)
		for _, key := range "nbiy[{0123ABCD" {
			tells(t, api.ErrKind, ahead+string(key))
			tells(t, api.ErrKind, ahead+string(key)+"n.")
		}
	}
	// In its value's place, and in an array, all may stand.
	for _, ahead := range strings.Fields("{t Bt {tnt [ [n [{. {t[ {t[n [{tn.") {
		for _, value := range "nbity[{0123ABCD" {
			tells(t, api.ErrMore, ahead+string(value))
		}
	}
}

// nest tells the letters of containers in one another, n in all: each with a
// key ahead of what is in it, if it is a map.
func nest(n int, kinds string) string {
	all := ""
	for k := range n {
		all += kinds[k%len(kinds):][:1]
		if k < n-1 && strings.ContainsAny(all[len(all)-1:], "{B") {
			all += "t"
		}
	}
	return all
}

func TestP902Deep(t *testing.T) {
	for _, kinds := range []string{"[", "{", "1", "B", "[{", "{[", "1B{["} {
		for n := 1; n <= 16; n++ {
			s := nest(n, kinds)
			tells(t, api.ErrMore, s)
			// The innermost one has no count that must be filled up.
			tells(t, api.OK, s[:len(s)-1]+"["+strings.Repeat(".", n))
		}
		tells(t, api.ErrDeep, nest(17, kinds))
		tells(t, api.ErrDeep, nest(17, kinds)+strings.Repeat(".", 17))
		tells(t, api.ErrDeep, nest(40, kinds))
	}
	// Those that are at their end don't count.
	tells(t, api.OK, strings.Repeat("[", 16)+strings.Repeat(".[", 30)+strings.Repeat(".", 16))
	tells(t, api.OK, "["+strings.Repeat("[.", 100)+strings.Repeat("{t0..", 100)+".")
	tells(t, api.ErrDeep, "["+strings.Repeat("[.", 100)+strings.Repeat("[", 16))
	// Values stand in the deepest one as elsewhere.
	tells(t, api.OK, strings.Repeat("[", 16)+"nbity"+strings.Repeat(".", 16))
}

// TestP902FirstWrong holds that the first one that is wrong tells, whatever
// comes behind it.
func TestP902FirstWrong(t *testing.T) {
	tells(t, api.ErrForm, "( < ? (. <. [( [< [? 1( B< {t? {t( {t< 0n.n{n")
	tells(t, api.ErrKind, "{n? {n.. {[. {nn. B1nn. {tnn( [{[{[")
	deep := nest(17, "[")
	tells(t, api.ErrDeep, deep+"? "+deep+strings.Repeat(".", 18)+" "+deep+"{n")
	tells(t, api.ErrForm, "?"+deep+" n"+deep+" ."+deep)
	tells(t, api.ErrKind, "{n"+deep)
}

// TestP902WrongInManyWays holds the order of what one part may be.
func TestP902WrongInManyWays(t *testing.T) {
	deep, deepMap := nest(16, "["), nest(15, "[")+"{"
	// Refused, in a key's place, deeper than may be, behind the end.
	tells(t, api.ErrForm, "{( {< {? B( [{? "+deep+"( "+deep+"< "+deep+"? "+deepMap+"( "+deepMap+"< "+deepMap+"? n( n< n?")
	// A key, and deeper than may be.
	tells(t, api.ErrKind, deepMap+"[ "+deepMap+"{ "+deepMap+"0 "+deepMap+"A "+deepMap+"tn[")
	tells(t, api.ErrDeep, deepMap+"t[ "+deepMap+"t{ "+deepMap+"t0 "+deepMap+"tA")
	// A second document that would be a key, or too deep, is none.
	tells(t, api.ErrForm, "{.[ {.n [.[")
}

// TestP902LeavesItsParts holds that nothing writes into what is handed in.
func TestP902LeavesItsParts(t *testing.T) {
	for _, s := range strings.Fields("[n. Btn. {n 2n. [[?") {
		l := read(s)
		event.Check(l...)
		if !slices.Equal(l, read(s)) {
			t.Errorf("%s is %v behind Check", s, l)
		}
	}
}

// model is Check as a descent: a document holds its parts one in another.
type model struct {
	l  []api.Ev
	at int
}

// check tells what model holds of parts.
func check(l []api.Ev) api.Errno {
	m := model{l: l}
	if e := m.value(0, false); e != api.OK {
		return e
	}
	if m.at < len(l) {
		return api.ErrForm
	}
	return api.OK
}

// value goes by one value, within so many containers.
func (m *model) value(within int, key bool) api.Errno {
	if m.at == len(m.l) {
		return api.ErrMore
	}
	e := m.l[m.at]
	m.at++
	switch {
	case e.Kind < api.Null || e.Kind >= api.End:
		return api.ErrForm
	case e.Kind < api.Array:
		if key && e.Kind != api.Text {
			return api.ErrKind
		}
		return api.OK
	case e.Count < -1:
		return api.ErrForm
	case key:
		return api.ErrKind
	case within >= 16:
		return api.ErrDeep
	}
	return m.inside(e, within+1)
}

// inside goes by what is in a container, and its end.
func (m *model) inside(begin api.Ev, within int) api.Errno {
	each := 1
	if begin.Kind == api.Map {
		each = 2
	}
	n := 0
	for ; m.at == len(m.l) || m.l[m.at].Kind != api.End; n++ {
		if e := m.value(within, n%each == 0 && each == 2); e != api.OK {
			return e
		}
	}
	m.at++
	if n%each != 0 || begin.Count != -1 && n/each != begin.Count {
		return api.ErrForm
	}
	return api.OK
}

// agrees asks of letters what the model tells; how many are a document.
func agrees(t *testing.T, letters string) int {
	t.Helper()
	l := read(letters)
	got, want := event.Check(l...), check(l)
	if got != want {
		t.Fatalf("Check(%s) = %d, not %d", letters, got, want)
	}
	if got == api.OK {
		return 1
	}
	return 0
}

// TestP902BesideTheModel asks all ways of a few parts.
func TestP902BesideTheModel(t *testing.T) {
	all, good := []string{""}, agrees(t, "")
	for range 6 {
		var next []string
		for _, s := range all {
			for _, r := range "nt[{12BC.(" {
				next = append(next, s+string(r))
				good += agrees(t, s+string(r))
			}
		}
		all = next
	}
	if good < 100 {
		t.Errorf("only %d are documents", good)
	}
}

// draws tells a function that draws numbers from 0 on, below n.
func draws() func(n int) int {
	seed := uint32(9)
	return func(n int) int {
		seed = seed*1_664_525 + 1_013_904_223
		return int(seed>>8) % n
	}
}

// grow tells the letters of a document, no deeper than that.
func grow(draw func(n int) int, deep int) string {
	if deep == 0 || draw(3) == 0 {
		return "nbity"[draw(5):][:1]
	}
	n, inside := draw(4), ""
	begin := "0123["[[]int{n, 4}[draw(2)]:][:1]
	isMap := draw(2) == 0
	if isMap {
		begin = "ABCD{"[[]int{n, 4}[draw(2)]:][:1]
	}
	for range n {
		if isMap {
			inside += "t"
		}
		inside += grow(draw, deep-1)
	}
	return begin + inside + "."
}

// TestP902LongWay grows documents, and hurts them.
func TestP902LongWay(t *testing.T) {
	draw, good := draws(), 0
	for range 30_000 {
		s := grow(draw, draw(9))
		if len(s) > 400 {
			continue
		}
		tells(t, api.OK, s)
		place, r := draw(len(s)), "nbity[{.0123ABCD(<?"[draw(19):][:1]
		good += agrees(t, s[:place]+r+s[place:])
		good += agrees(t, s[:place]+r+s[place+1:])
		good += agrees(t, s[:place]+s[place+1:])
		agrees(t, s[:place])
		agrees(t, s[place:])
		agrees(t, strings.Repeat("[", 14)+s+strings.Repeat(".", 14))
	}
	if good < 100 {
		t.Errorf("only %d are documents still", good)
	}
}
