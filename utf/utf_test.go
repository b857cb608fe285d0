package utf_test

import (
	"math"
	"slices"
	"strings"
	"sync"
	"testing"

	"truchman/utf"
)

const lastRune = 0x10ffff

func surrogate(r int) bool { return r >= 0xd800 && r <= 0xdfff }

// form writes a number in a form of n bytes, of 1 to 4, whether it may be or not.
func form(r, n int) string {
	if n == 1 {
		return string([]byte{byte(r)})
	}
	lead := []int{0, 0, 0xc0, 0xe0, 0xf0}[n]
	b := []byte{byte(lead | r>>(6*(n-1)))}
	for k := n - 2; k >= 0; k-- {
		b = append(b, byte(0x80|r>>(6*k)&0x3f))
	}
	return string(b)
}

// size tells how many bytes a rune's form takes.
func size(r int) int {
	switch {
	case r < 0x80:
		return 1
	case r < 0x800:
		return 2
	case r < 0x10000:
		return 3
	}
	return 4
}

// model has each rune's bytes, and each beginning of them, as keys.
type model struct{ whole, begun map[string]int }

// theModel is made once: it is great.
var theModel = sync.OnceValue(newModel)

func newModel() model {
	m := model{map[string]int{}, map[string]int{"": -1}}
	for r := 0; r <= lastRune; r++ {
		if surrogate(r) {
			continue
		}
		b := form(r, size(r))
		m.whole[b] = r
		for k := 1; k < len(b); k++ {
			m.begun[b[:k]] = r
		}
	}
	return m
}

// asks tells of a text whether it is a beginning of UTF-8, and whether it is UTF-8.
func (m model) asks(s string) (begins, whole bool) {
	at := 0
	for k := 1; k <= len(s); k++ {
		if _, is := m.whole[s[at:k]]; is {
			at = k
		}
	}
	_, begins = m.begun[s[at:]]
	return begins, at == len(s)
}

// holds asks for all that a check tells of itself.
func holds(t *testing.T, what string, c *utf.Check, whole, bad bool) {
	t.Helper()
	if c.Whole() != whole || c.Bad() != bad {
		t.Errorf("%s: Whole %v, Bad %v; not %v, %v", what, c.Whole(), c.Bad(), whole, bad)
	}
}

// agrees steps through a text, and asks behind each byte what the model says.
func agrees(t *testing.T, m model, s string) {
	t.Helper()
	var c utf.Check
	for k := range len(s) {
		may := c.Step(s[k])
		begins, whole := m.asks(s[:k+1])
		if may != begins || c.Bad() == begins || c.Whole() != whole {
			t.Errorf("% x: Step %v, Bad %v, Whole %v; not %v, %v, %v", s[:k+1], may, c.Bad(), c.Whole(), begins, !begins, whole)
		}
	}
	if _, whole := m.asks(s); utf.Valid(s) != whole {
		t.Errorf("% x: Valid %v", s, !whole)
	}
}

// edges are bytes at both ends of what each place of a rune may be.
func edges() []byte {
	return []byte{0, 'a', 0x7f, 0x80, 0x81, 0x8f, 0x90, 0x91, 0x9f, 0xa0, 0xa1, 0xbe, 0xbf, 0xc0, 0xc1, 0xc2, 0xdf, 0xe0, 0xe1, 0xec, 0xed, 0xee, 0xef, 0xf0, 0xf1, 0xf3, 0xf4, 0xf5, 0xf7, 0xf8, 0xfb, 0xfc, 0xfd, 0xfe, 0xff}
}

// wrong are texts that are not UTF-8: no beginning of it, but the last ones.
func wrong() []string {
	return []string{
		"\x80", "\xbf", "a\x80", "\xff", "\xfe", "\xc0\x80", "\xc1\xbf", "\xe0\x80\x80", "\xe0\x9f\xbf",
		"\xf0\x80\x80\x80", "\xf0\x8f\xbf\xbf", "\xed\xa0\x80", "\xed\xbf\xbf", "\xed\xa0\xbd\xed\xb8\x80",
		"\xf4\x90\x80\x80", "\xf5\x80\x80\x80", "\xf7\xbf\xbf\xbf", "\xf8\x88\x80\x80\x80", "\xfc\x84\x80\x80\x80\x80",
		"\xc3(", "\xe2(\xa1", "\xe2\x82(", "\xf0\x90(\xbc", "\xf0\x28\x8c\x28", "é\xa9", "€\xac", "😀\x80", "\ufffd\xff",
		"\xc3\xc3\xa9", "\xe2\x82\xe2\x82\xac", "\xc3", "\xe2", "\xe2\x82", "\xf0", "\xf0\x9f", "\xf0\x9f\x98", "aé€\xf0\x9f\x98",
	}
}

func TestP401ZeroHasSeenNothing(t *testing.T) {
	var c utf.Check
	holds(t, "zero", &c, true, false)
	holds(t, "new", new(utf.Check), true, false)
}

func TestP401Nil(t *testing.T) {
	var none *utf.Check
	for b := range 256 {
		if none.Step(byte(b)) {
			t.Errorf("nil: %#x may follow", b)
		}
		holds(t, "nil", none, false, true)
	}
}

func TestP401EachRune(t *testing.T) {
	for r := 0; r <= lastRune; r++ {
		if surrogate(r) {
			continue
		}
		var c utf.Check
		b := form(r, size(r))
		for k := range len(b) {
			if !c.Step(b[k]) || c.Bad() || c.Whole() != (k == len(b)-1) {
				t.Fatalf("%x: byte %d: Bad %v, Whole %v", r, k, c.Bad(), c.Whole())
			}
		}
	}
}

func TestP401NoLongerForm(t *testing.T) {
	for n := 2; n <= 4; n++ {
		top := []int{0, 0, 0x80, 0x800, 0x10000}[n]
		for r := range top {
			var c utf.Check
			b := form(r, n)
			if c.Step(b[0]) && c.Step(b[1]) || c.Whole() || !c.Bad() {
				t.Fatalf("%x in %d bytes: Whole %v, Bad %v", r, n, c.Whole(), c.Bad())
			}
		}
	}
}

func TestP401NoSurrogateAndNothingBeyond(t *testing.T) {
	var beyond []int
	for r := 0xd800; r <= 0xdfff; r++ {
		beyond = append(beyond, r)
	}
	for r := lastRune + 1; r <= 0x1fffff; r += 61 {
		beyond = append(beyond, r)
	}
	for _, r := range beyond {
		var c utf.Check
		b := form(r, size(r))
		if c.Step(b[0]) && c.Step(b[1]) || c.Whole() || !c.Bad() {
			t.Fatalf("%x: Whole %v, Bad %v", r, c.Whole(), c.Bad())
		}
	}
}

func TestP401EachPair(t *testing.T) {
	m := theModel()
	for a := range 256 {
		for b := range 256 {
			agrees(t, m, string([]byte{byte(a), byte(b)}))
		}
	}
}

func TestP401ShortTexts(t *testing.T) {
	m := theModel()
	for _, a := range edges() {
		for _, b := range edges() {
			for _, c := range edges() {
				agrees(t, m, string([]byte{a, b, c}))
				agrees(t, m, string([]byte{a, b, 0x80, c}))
				agrees(t, m, string([]byte{a, b, c, 0xbf}))
				agrees(t, m, string([]byte{'a', a, b, 0xbf, 0x80, c}))
			}
		}
	}
}

func TestP401BadFromThenOn(t *testing.T) {
	for _, begun := range []string{"\x80", "\xc0", "\xc1", "\xf5", "\xff", "\xc3a", "\xe0\x9f", "\xed\xa0", "\xf0\x8f", "\xf4\x90", "\xf0\x90\x80a", "aé\xbf"} {
		for b := range 256 {
			var c utf.Check
			for k := range len(begun) {
				if c.Step(begun[k]) != (k < len(begun)-1) {
					t.Errorf("% x: byte %d is %v", begun, k, k == len(begun)-1)
				}
			}
			holds(t, begun, &c, false, true)
			for range 5 {
				if c.Step(byte(b)) {
					t.Errorf("% x: %#x may follow", begun, b)
				}
				holds(t, begun, &c, false, true)
			}
		}
	}
}

func TestP401WrongTexts(t *testing.T) {
	m := theModel()
	for _, s := range wrong() {
		agrees(t, m, s)
		if _, whole := m.asks(s); whole {
			t.Errorf("% x is UTF-8", s)
		}
	}
}

func TestP401AsksChangeNothing(t *testing.T) {
	var c utf.Check
	for _, b := range []byte("é€😀\xed") {
		for range 3 {
			c.Whole()
			c.Bad()
		}
		if !c.Step(b) {
			t.Errorf("%#x may not follow", b)
		}
	}
	if c.Step(0xa0) {
		t.Error("a surrogate may follow")
	}
}

func TestP401EachItsOwn(t *testing.T) {
	var a, b utf.Check
	a.Step(0xe2)
	b.Step(0xff)
	holds(t, "begun", &a, false, false)
	holds(t, "bad", &b, false, true)
	again := a
	again.Step(0xff)
	if !a.Step(0x82) || !a.Step(0xac) {
		t.Error("a copy's bytes count")
	}
	holds(t, "ended", &a, true, false)
}

func TestP401LongTexts(t *testing.T) {
	m := theModel()
	seed := uint32(4)
	for range 300 {
		var b strings.Builder
		for b.Len() < 40 {
			seed = seed*1_664_525 + 1_013_904_223
			r := int(seed>>8) % (lastRune + 1) >> (seed >> 5 % 4 * 5)
			if !surrogate(r) {
				b.WriteString(form(r, size(r)))
			}
		}
		s := b.String()
		agrees(t, m, s)
		hurt := []byte(s)
		hurt[int(seed>>7)%len(hurt)] ^= byte(1 << (seed >> 28 % 8))
		agrees(t, m, string(hurt))
		agrees(t, m, s[:int(seed>>9)%len(s)])
	}
}

func TestP402Valid(t *testing.T) {
	for _, s := range []string{"", "a", "\x00", "\x7f", "é", "aé€😀", "\ufffd", "a\ufffdb", "\u0080", "\u07ff", "\u0800", "\ud7ff", "\ue000", "\uffff", "\U00010000", "\U0010ffff", strings.Repeat("€", 1000)} {
		if !utf.Valid(s) {
			t.Errorf("% x is not UTF-8", s)
		}
	}
	for _, s := range wrong() {
		if utf.Valid(s) {
			t.Errorf("% x is UTF-8", s)
		}
	}
	if utf.Valid(strings.Repeat("a", 1000) + "\xff") {
		t.Error("the last byte does not count")
	}
}

func TestP402PutEachRune(t *testing.T) {
	for r := 0; r <= lastRune; r++ {
		want, may := form(r, size(r)), true
		if surrogate(r) {
			want, may = "", false
		}
		if got, is := utf.Put(r); got != want || is != may {
			t.Fatalf("%x: % x, %v; not % x, %v", r, got, is, want, may)
		}
	}
	if got, is := utf.Put(233); got != "\xc3\xa9" || !is {
		t.Errorf("233: % x, %v", got, is)
	}
}

func TestP402PutNoRune(t *testing.T) {
	for _, r := range []int{-1, -2, -65, 0xd800, 0xdbff, 0xdc00, 0xdfff, lastRune + 1, 0x1fffff, math.MinInt32, math.MaxInt32, 1 << 32, 1<<32 + 'a', -1<<32 + 'a', 1<<33 + 233, math.MinInt, math.MinInt + 'a', math.MaxInt, math.MaxInt - 65000} {
		if got, is := utf.Put(r); got != "" || is {
			t.Errorf("%x: % x, %v", r, got, is)
		}
	}
}

func TestP402Runes(t *testing.T) {
	for s, want := range map[string][]int{
		"": nil, "a": {97}, "\x00": {0}, "aé€😀": {97, 233, 8364, 128512}, "\ufffd": {0xfffd}, "\ufffd\ufffda": {0xfffd, 0xfffd, 97},
		"ba": {98, 97}, "e\u0301": {101, 0x301}, "\ufeffa": {0xfeff, 97}, "\U0010ffff\U00010000\uffff": {0x10ffff, 0x10000, 0xffff},
	} {
		if got := utf.Runes(s); !slices.Equal(got, want) {
			t.Errorf("%q: %v, not %v", s, got, want)
		}
	}
}

func TestP402RunesThereAndBack(t *testing.T) {
	var b strings.Builder
	var want []int
	for r := 0; r <= lastRune; r++ {
		if s, is := utf.Put(r); is {
			b.WriteString(s)
			want = append(want, r)
		}
	}
	if !utf.Valid(b.String()) || !slices.Equal(utf.Runes(b.String()), want) {
		t.Error("all runes are not what was put")
	}
}

func TestP402RunesOfOtherBytes(t *testing.T) {
	for _, s := range wrong() {
		for _, s := range []string{s, "aé" + s, s + "\xff", "\ufffd" + s} {
			if got := utf.Runes(s); len(got) != 0 {
				t.Errorf("% x: %v", s, got)
			}
		}
	}
}

func TestP402AnswersStay(t *testing.T) {
	a := utf.Runes("aé")
	a[0] = 7
	if b := utf.Runes("aé"); !slices.Equal(b, []int{97, 233}) || a[0] != 7 {
		t.Errorf("%v, %v", a, b)
	}
}
