package escape_test

import (
	"encoding/json"
	"fmt"
	"strings"
	"testing"
	"unicode/utf8"

	"truchman/api"
	"truchman/escape"
)

// state is what is told behind a byte: what it was, and what is known in all.
type state struct {
	text  string
	e     api.Errno
	whole bool
}

// hex tells what a text of hex digits counts; false, if one is none.
func hex(s string) (n int, is bool) {
	for k := range len(s) {
		at := strings.IndexByte("0123456789abcdefABCDEF", s[k])
		if at < 0 {
			return 0, false
		}
		if at > 15 {
			at -= 6
		}
		n = n*16 + at
	}
	return n, true
}

// plainError tells the error of a last byte that may not be where it is.
func plainError(s string) api.Errno {
	if last := s[len(s)-1]; last < 32 || last == '"' {
		return api.ErrForm
	}
	return api.ErrUtf
}

// escapeError tells the error of a last byte that may not be in an escape: all
// ahead of it are ASCII there, so it is no UTF-8 if it can't begin any.
func escapeError(last byte) api.Errno {
	if last >= 0x80 && (last < 0xc2 || last > 0xf4) {
		return api.ErrUtf
	}
	return api.ErrForm
}

// begins tells whether a text could be the beginning of a low surrogate's escape.
func begins(s string) bool {
	may := []string{`\`, "u", "dD", "cdefCDEF"}
	for k := range min(len(s), len(may)) {
		if strings.IndexByte(may[k], s[k]) < 0 {
			return false
		}
	}
	_, is := hex(s[min(len(s), len(may)):])
	return is
}

// model reads an inside from its beginning on, in pieces: each of its
// beginnings but itself is without an error.
func model(s string) state {
	text := ""
	for s != "" {
		piece, said, e := "", "", api.OK
		switch {
		case s[0] != '\\':
			piece, said, e = modelRune(s)
		case len(s) > 1 && s[1] == 'u':
			piece, said, e = modelDigits(s)
		default:
			piece, said, e = modelShort(s)
		}
		if e == api.ErrMore {
			return state{text + said, api.OK, false}
		}
		if e != api.OK {
			return state{"", e, false}
		}
		text += said
		s = s[len(piece):]
	}
	return state{text, api.OK, true}
}

// modelRune reads a rune; of one that lacks bytes all are said already.
func modelRune(s string) (piece, said string, e api.Errno) {
	if s[0] < 32 || s[0] == '"' {
		return "", "", api.ErrForm
	}
	r, n := utf8.DecodeRuneInString(s)
	if r != utf8.RuneError || n > 1 {
		return s[:n], s[:n], api.OK
	}
	if !utf8.FullRuneInString(s) {
		return s, s, api.ErrMore
	}
	return "", "", plainError(s)
}

// modelShort reads a backslash and one byte.
func modelShort(s string) (piece, said string, e api.Errno) {
	if len(s) == 1 {
		return s, "", api.ErrMore
	}
	at := strings.IndexByte(`"\/bfnrt`, s[1])
	if at < 0 {
		return "", "", escapeError(s[1])
	}
	return s[:2], "\"\\/\b\f\n\r\t"[at : at+1], api.OK
}

// modelDigits reads an escape of digits, or two that are one rune.
func modelDigits(s string) (piece, said string, e api.Errno) {
	one := s[:min(6, len(s))]
	first, is := hex(one[2:])
	switch {
	case !is:
		return "", "", escapeError(s[len(s)-1])
	case len(one) < 6:
		return one, "", api.ErrMore
	case first >= 0xdc00 && first < 0xe000:
		return "", "", api.ErrUtf
	case first < 0xd800 || first >= 0xe000:
		return one, string(rune(first)), api.OK
	}
	other := s[6:min(12, len(s))]
	switch {
	case !begins(other):
		return "", "", api.ErrUtf
	case len(other) < 6:
		return s, "", api.ErrMore
	}
	second, _ := hex(other[2:])
	return s[:12], string(rune(0x10000 + (first-0xd800)*0x400 + second - 0xdc00)), api.OK
}

// agrees steps through an inside, and asks behind each byte what the model says.
func agrees(t *testing.T, s string) {
	t.Helper()
	var r escape.Reader
	var had, want state
	for k := range len(s) {
		if want.e == api.OK {
			had, want = want, model(s[:k+1])
		}
		text, e := r.Step(s[k])
		known := ""
		if want.e == api.OK {
			known = strings.TrimPrefix(want.text, had.text)
		}
		if text != known || e != want.e || r.Whole() != want.whole {
			t.Fatalf("%q: tells %q, %d, %v; not %q, %d, %v", s[:k+1], text, e, r.Whole(), known, want.e, want.whole)
		}
	}
	if s == "" {
		want.whole = true
	}
	if !want.whole && want.e == api.OK {
		want = state{"", api.ErrMore, false}
	}
	if text, e := escape.Read(s); text != want.text || e != want.e {
		t.Fatalf("Read(%q) = %q, %d; not %q, %d", s, text, e, want.text, want.e)
	}
}

// through steps through an inside that has no error, and tells the reader.
func through(t *testing.T, s string) *escape.Reader {
	t.Helper()
	r := &escape.Reader{}
	for k := range len(s) {
		if _, e := r.Step(s[k]); e != api.OK {
			t.Fatalf("%q: byte %d tells %d", s, k, e)
		}
	}
	return r
}

// tells asks what the byte behind an inside without an error tells.
func tells(t *testing.T, ahead string, b byte, want state) {
	t.Helper()
	r := through(t, ahead)
	if text, e := r.Step(b); text != want.text || e != want.e || r.Whole() != want.whole {
		t.Errorf("%#x behind %q: %q, %d, %v; not %q, %d, %v", b, ahead, text, e, r.Whole(), want.text, want.e, want.whole)
	}
}

// opens are insides behind which something is open.
func opens() []string {
	return []string{
		`\`, `\u`, `\u0`, `\u00`, `\u00e`, `\ud`, `\ud8`, `\ud83`, `\ud83d`, `\ud83d\`, `\ud83d\u`, `\ud83d\ud`, `\ud83d\ude`, `\ud83d\ude0`,
		`\uDBFF`, `\uD800\uDC0`, "\xc3", "\xe2", "\xe2\x82", "\xf0", "\xf0\x9f", "\xf0\x9f\x98", `a\`, `\\\`, `\u0041\`, "é\xc3", `\n` + "\xe2\x82",
	}
}

// notes are bytes of every sort that is asked for, and at its edges.
func notes() []byte {
	return []byte("\x00\x1f !\"/0129:@ACDFGU[\\`abcdfgnrtu\x7f\x80\x9f\xa0\xbf\xc1\xc2\xdf\xe0\xe2\xed\xef\xf0\xf4\xf5\xff")
}

func TestP501ZeroHasSeenNothing(t *testing.T) {
	var r escape.Reader
	for range 2 {
		if !r.Whole() {
			t.Error("a zero one is not whole")
		}
	}
	if text, e := r.Step('a'); text != "a" || e != api.OK || !r.Whole() {
		t.Errorf("its first byte tells %q, %d, %v", text, e, r.Whole())
	}
}

func TestP501Nil(t *testing.T) {
	var none *escape.Reader
	for b := range 256 {
		if text, e := none.Step(byte(b)); text != "" || e != api.ErrState || none.Whole() {
			t.Errorf("nil: %#x tells %q, %d, %v", b, text, e, none.Whole())
		}
	}
}

func TestP501EachByteByItself(t *testing.T) {
	for b := range 256 {
		want := state{string([]byte{byte(b)}), api.OK, true}
		switch {
		case b < 32, b == '"':
			want = state{"", api.ErrForm, false}
		case b == '\\':
			want = state{"", api.OK, false}
		case b >= 0xc2 && b <= 0xf4:
			want.whole = false
		case b >= 0x80:
			want = state{"", api.ErrUtf, false}
		}
		for _, ahead := range []string{"", "a", "é", `\n`, `\\`, `\"`, `\u0041`, `\ud83d\ude00`, "u", "d83d", "😀/"} {
			tells(t, ahead, byte(b), want)
		}
	}
}

func TestP501RunesByteByByte(t *testing.T) {
	for _, s := range []string{"é", "\u0080", "\u07ff", "\u0800", "€", "\ud7ff", "\ue000", "\uffff", "\U00010000", "😀", "\U0010ffff"} {
		for k := range len(s) {
			tells(t, s[:k], s[k], state{s[k : k+1], api.OK, k == len(s)-1})
		}
	}
}

func TestP501MayNotFollowAsUTF8(t *testing.T) {
	for ahead, wrong := range map[string]string{
		"": "\x80\xbf\xc0\xc1\xf5\xff", "a": "\x80\xff", "é": "\xa9\xbf", "\xc3": "a \\/u\x7f\xc0\xc3\xff", "\xe2": "a\\\x7f\xc2\xe2", "\xe2\x82": "a\\n\xe2",
		"\xe0": "\x80\x9f", "\xed": "\xa0\xbf", "\xf0": "\x80\x8f", "\xf4": "\x90\xbf", "\xf0\x9f\x98": "a\\\xf0", `\n`: "\x80", `\u00e9`: "\xa9",
	} {
		for _, b := range []byte(wrong) {
			tells(t, ahead, b, state{"", api.ErrUtf, false})
		}
	}
}

// TestP501FormAheadOfUtf holds that of two errors the one that is named first counts.
func TestP501FormAheadOfUtf(t *testing.T) {
	for _, ahead := range []string{"\xc3", "\xe2", "\xe2\x82", "\xf0", "\xf0\x9f\x98", "é\xed"} {
		for b := range 32 {
			tells(t, ahead, byte(b), state{"", api.ErrForm, false})
		}
		tells(t, ahead, '"', state{"", api.ErrForm, false})
	}
}

// TestP501UtfAheadOfEscapes holds that a byte that is no UTF-8 is that also within an escape.
func TestP501UtfAheadOfEscapes(t *testing.T) {
	for _, ahead := range []string{`\`, `\u`, `\u0`, `\u00`, `\u00e`, `\ud83`} {
		for b := 0x80; b < 0x100; b++ {
			want := state{"", api.ErrUtf, false}
			if b >= 0xc2 && b <= 0xf4 {
				want.e = api.ErrForm
			}
			tells(t, ahead, byte(b), want)
		}
	}
}

func TestP501BehindABackslash(t *testing.T) {
	means := map[byte]string{'"': `"`, '\\': `\`, '/': "/", 'b': "\b", 'f': "\f", 'n': "\n", 'r': "\r", 't': "\t"}
	for b := range 0x80 {
		want := state{"", api.ErrForm, false}
		if text, is := means[byte(b)]; is {
			want = state{text, api.OK, true}
		}
		if b == 'u' {
			want.e = api.OK
		}
		for _, ahead := range []string{`\`, `a\`, `\\\`, `é\`, `\n\`, `\u0041\`, `\ud83d\ude00\`} {
			tells(t, ahead, byte(b), want)
		}
	}
}

func TestP501NoHexDigit(t *testing.T) {
	for _, ahead := range []string{`\u`, `\u0`, `\u0a`, `\u0aF`, `\ud`, `\ud8`, `\udc0`} {
		for b := range 0x80 {
			if strings.IndexByte("0123456789abcdefABCDEF", byte(b)) < 0 {
				tells(t, ahead, byte(b), state{"", api.ErrForm, false})
			}
		}
	}
}

// cases are ways to write a number in four hex digits.
func cases(n int) []string {
	small, large := fmt.Sprintf("%04x", n), fmt.Sprintf("%04X", n)
	return []string{small, large, small[:1] + large[1:3] + small[3:], large[:2] + small[2:]}
}

func TestP501EachNumber(t *testing.T) {
	for n := range 0x10000 {
		want := state{string(rune(n)), api.OK, true}
		switch n >> 10 {
		case 0xd800 >> 10:
			want = state{"", api.OK, false}
		case 0xdc00 >> 10:
			want = state{"", api.ErrUtf, false}
		}
		for _, digits := range cases(n) {
			tells(t, `\u`+digits[:3], digits[3], want)
		}
	}
}

func TestP501EachSurrogate(t *testing.T) {
	holds := func(high, low, way int) {
		s := `\u` + cases(high)[way%4] + `\u` + cases(low)[way/4]
		rune := string(rune((high-0xd800)<<10 | (low - 0xdc00) + 0x10000))
		tells(t, s[:11], s[11], state{rune, api.OK, true})
	}
	for n := range 0x400 {
		for way := range 16 {
			holds(0xd800+n, 0xdc00, way)
			holds(0xd800+n, 0xdfff-n, way)
			holds(0xdbff, 0xdc00+n, way)
		}
	}
}

// TestP501NothingAheadOfTheLastByte holds that an escape is told at its last byte alone.
func TestP501NothingAheadOfTheLastByte(t *testing.T) {
	for _, s := range []string{`\n`, `\u00e9`, `\u0000`, `\uFFFF`, `\ud83d\ude00`, `\uDBFF\udfff`} {
		for k := range len(s) - 1 {
			tells(t, s[:k], s[k], state{"", api.OK, false})
		}
	}
}

func TestP501BehindAHighSurrogate(t *testing.T) {
	for ahead, may := range map[string]string{
		`\ud83d`: `\`, `\uD800`: `\`, `\ud83d\`: "u", `\ud83d\u`: "dD", `\uDBFF\uD`: "cdefCDEF", `\ud83d\ud`: "cdefCDEF",
		`\ud83d\udc`: "0123456789abcdefABCDEF", `\ud83d\uDf0`: "0123456789abcdefABCDEF", `a\udbff\udFf`: "0123456789abcdefABCDEF",
	} {
		for b := range 256 {
			r := through(t, ahead)
			text, e := r.Step(byte(b))
			switch {
			case strings.IndexByte(may, byte(b)) < 0:
				if text != "" || e != api.ErrUtf || r.Whole() {
					t.Errorf("%#x behind %q: %q, %d, %v; not ErrUtf", b, ahead, text, e, r.Whole())
				}
			case e != api.OK, r.Whole() != (text != ""):
				t.Errorf("%#x behind %q: %q, %d, %v; not OK", b, ahead, text, e, r.Whole())
			}
		}
	}
}

// TestP501SurrogateIsForgotten holds that a high surrogate has but one low one, and digits count for their own rune.
func TestP501SurrogateIsForgotten(t *testing.T) {
	for s, want := range map[string]string{
		`\ud83d\ude00\u0041`: "😀A", `\ud83d\ude00x`: "😀x", `\ud83d\ude00\ud83d\ude01`: "😀😁", `\u00e9\u00e9`: "éé", `\uffff\u0000`: "\uffff\x00", `\ud83d\ude00\n` + "é": "😀\né",
	} {
		if text, e := escape.Read(s); text != want || e != api.OK {
			t.Errorf("%q: %q, %d; not %q", s, text, e, want)
		}
	}
	tells(t, `\ud83d\ude00\ude0`, '0', state{"", api.ErrUtf, false})
}

func TestP501BehindAnErrorItIsThatError(t *testing.T) {
	for wrong, e := range map[string]api.Errno{
		`"`: api.ErrForm, "\n": api.ErrForm, `\x`: api.ErrForm, `\ug`: api.ErrForm, "\xc3\"": api.ErrForm, `\U`: api.ErrForm,
		"\xff": api.ErrUtf, "\xc3a": api.ErrUtf, `\udc00`: api.ErrUtf, `\ud800x`: api.ErrUtf, `\ud800"`: api.ErrUtf, `\ud800\u0`: api.ErrUtf, "\\\xff": api.ErrUtf,
	} {
		for b := range 256 {
			r := through(t, wrong[:len(wrong)-1])
			r.Step(wrong[len(wrong)-1])
			for range 3 {
				if text, got := r.Step(byte(b)); text != "" || got != e || r.Whole() {
					t.Fatalf("%#x behind %q: %q, %d, %v; not %d", b, wrong, text, got, r.Whole(), e)
				}
			}
			for _, b := range []byte(`"\"\\n\u0041`) {
				if text, got := r.Step(b); text != "" || got != e || r.Whole() {
					t.Fatalf("%#x behind %q: %q, %d, %v; not %d", b, wrong, text, got, r.Whole(), e)
				}
			}
		}
	}
}

func TestP501WholeChangesNothing(t *testing.T) {
	var r escape.Reader
	var all strings.Builder
	for _, b := range []byte(`aé\n\u00e9\ud83d\ude00`) {
		for range 3 {
			r.Whole()
		}
		text, e := r.Step(b)
		if e != api.OK {
			t.Fatalf("%#x tells %d", b, e)
		}
		all.WriteString(text)
	}
	if all.String() != "aé\né😀" || !r.Whole() {
		t.Errorf("%q, %v", all.String(), r.Whole())
	}
}

func TestP501WholeOfWhatIsOpen(t *testing.T) {
	for _, s := range opens() {
		if through(t, s).Whole() {
			t.Errorf("%q is whole", s)
		}
	}
}

func TestP501EachItsOwn(t *testing.T) {
	for _, s := range opens() {
		one, other := through(t, s), through(t, "a")
		again := *one
		again.Step(1)
		if again.Whole() || one.Whole() || !other.Whole() {
			t.Errorf("%q: %v, %v, %v", s, again.Whole(), one.Whole(), other.Whole())
		}
		if text, e := other.Step('b'); text != "b" || e != api.OK {
			t.Errorf("%q: the other one tells %q, %d", s, text, e)
		}
	}
	one := through(t, `\ud83d\ude0`)
	again := *one
	if text, e := again.Step('1'); text != "😁" || e != api.OK {
		t.Errorf("a copy tells %q, %d", text, e)
	}
	if text, e := one.Step('0'); text != "😀" || e != api.OK {
		t.Errorf("behind its copy it tells %q, %d", text, e)
	}
}

// TestP501BesideTheModel goes on from many beginnings by all that there is of three bytes.
func TestP501BesideTheModel(t *testing.T) {
	for _, ahead := range append(opens(), "", "a", `\n`, `\u00e9`, `\ud83d\ude00`) {
		for _, a := range notes() {
			for _, b := range notes() {
				for _, c := range notes() {
					agrees(t, ahead+string([]byte{a, b, c}))
				}
			}
		}
	}
}

// TestP501LongWay reads long insides, good ones and hurt ones, beside the model.
func TestP501LongWay(t *testing.T) {
	seed := uint32(5)
	draw := func(n int) int {
		seed = seed*1_664_525 + 1_013_904_223
		return int(seed>>8) % n
	}
	pieces := []string{"a", "zz", "é", "€", "😀", `\"`, `\\`, `\/`, `\b`, `\n`, `\u0041`, `\u00E9`, `\u20aC`, `\ud83d\ude00`, `\uDBFF\uDFFF`, `\u0000`, "\x7f", "'"}
	for range 2_000 {
		s := ""
		for range draw(12) {
			s += pieces[draw(len(pieces))]
		}
		agrees(t, s)
		if s == "" {
			continue
		}
		hurt := []byte(s)
		hurt[draw(len(hurt))] = notes()[draw(len(notes()))]
		agrees(t, string(hurt))
		agrees(t, s[:draw(len(s))])
	}
}

func TestP502WriteEachByte(t *testing.T) {
	short := map[int]string{'"': `\"`, '\\': `\\`, 8: `\b`, 12: `\f`, 10: `\n`, 13: `\r`, 9: `\t`}
	for b := range 256 {
		s := string([]byte{byte(b)})
		want, is := short[b]
		if !is {
			want = s
		}
		if !is && b < 32 {
			want = fmt.Sprintf(`\u%04x`, b)
		}
		for _, ends := range [][2]string{{"", ""}, {"a", "b"}, {"é", "€"}, {"\xc3", "\xa9"}, {"\xe2\x82", "\xf0\x9f"}, {"\xff", "\xff"}} {
			if got := escape.Write(ends[0] + s + ends[1]); got != ends[0]+want+ends[1] {
				t.Errorf("Write(%q) = %q, not %q", ends[0]+s+ends[1], got, ends[0]+want+ends[1])
			}
		}
		if got := escape.Write(s + s + s); got != want+want+want {
			t.Errorf("Write(%q) = %q", s+s+s, got)
		}
	}
}

func TestP502Write(t *testing.T) {
	for s, want := range map[string]string{
		"": "", "abc": "abc", `a"b\c`: `a\"b\\c`, "\b\f\n\r\t": `\b\f\n\r\t`, "\x00\x0b\x1f": `\u0000\u000b\u001f`, "aé€😀": "aé€😀", "/": "/", "\x7f": "\x7f",
		"\u0080\u2028\u2029\ufeff\ufffd": "\u0080\u2028\u2029\ufeff\ufffd", "<&>'": "<&>'", "\xff\xfe\n\x80": "\xff\xfe\\n\x80", "\xc3\"\xa9": "\xc3\\\"\xa9", `\u0041`: `\\u0041`,
	} {
		if got := escape.Write(s); got != want {
			t.Errorf("Write(%q) = %q, not %q", s, got, want)
		}
	}
}

func TestP502Read(t *testing.T) {
	for s, want := range map[string]string{
		"": "", "abc": "abc", `a\u00e9`: "aé", `\"\\\/\b\f\n\r\t`: "\"\\/\b\f\n\r\t", `\u20AC\u20ac`: "€€", `\uD83D\uDE00x`: "😀x", "é€😀": "é€😀", `\u0000`: "\x00",
		`\\u0041`: `\u0041`, `\\\\`: `\\`, `\\n`: `\n`, "\x7f/'": "\x7f/'", `\u0022\u005c`: `"\`, `\u001f`: "\x1f", `\ud800\udc00`: "\U00010000", `\udbff\udfff`: "\U0010ffff",
	} {
		if got, e := escape.Read(s); got != want || e != api.OK {
			t.Errorf("Read(%q) = %q, %d; not %q", s, got, e, want)
		}
	}
}

func TestP502ReadTellsTheFirstError(t *testing.T) {
	for s, want := range map[string]api.Errno{
		`ab"`: api.ErrForm, `"`: api.ErrForm, "a\nb": api.ErrForm, "\x00": api.ErrForm, `ab\x\udc00`: api.ErrForm, `ab"` + "\xff": api.ErrForm, `\u00g0`: api.ErrForm, `\u"`: api.ErrForm, `\U0041`: api.ErrForm, "\xc3\"": api.ErrForm, "a\n\\": api.ErrForm,
		"\xff\"": api.ErrUtf, "a\xc3a": api.ErrUtf, `\udc00"`: api.ErrUtf, `\ud800"`: api.ErrUtf, "\\ud800\n": api.ErrUtf, `\ud800\n`: api.ErrUtf, `\ud800\ud800`: api.ErrUtf, `\ud800\u0041`: api.ErrUtf, `\ud800\Udc00`: api.ErrUtf, `\ud800a\udc00`: api.ErrUtf, `\ud800\udcg0`: api.ErrUtf, "\xe2\x82\\u00e9": api.ErrUtf,
	} {
		if got, e := escape.Read(s); got != "" || e != want {
			t.Errorf("Read(%q) = %q, %d; not %d", s, got, e, want)
		}
	}
}

func TestP502ReadOfWhatIsOpen(t *testing.T) {
	for _, s := range opens() {
		for _, s := range []string{s, "abc" + s, `\n` + s} {
			if got, e := escape.Read(s); got != "" || e != api.ErrMore {
				t.Errorf("Read(%q) = %q, %d; not ErrMore", s, got, e)
			}
		}
	}
}

func TestP502ThereAndBack(t *testing.T) {
	var all strings.Builder
	for r := range rune(0x110000) {
		if utf8.ValidRune(r) {
			all.WriteRune(r)
		}
	}
	s := all.String()
	inside := escape.Write(s)
	if got, e := escape.Read(inside); got != s || e != api.OK {
		t.Errorf("all runes are not what was written, or %d", e)
	}
	var back string
	if err := json.Unmarshal([]byte(`"`+inside+`"`), &back); err != nil || back != s {
		t.Errorf("as JSON it is not what was written: %v", err)
	}
}

// TestP502OtherBytes holds that what is no UTF-8 is written as it is, and not read.
func TestP502OtherBytes(t *testing.T) {
	for _, s := range []string{"\xff", "a\x80", "\xc3(", "\xed\xa0\x80", "\xf4\x90\x80\x80", "\xc0\x80"} {
		if got := escape.Write(s); got != s {
			t.Errorf("Write(%q) = %q", s, got)
		}
		if got, e := escape.Read(s); got != "" || e != api.ErrUtf {
			t.Errorf("Read(%q) = %q, %d", s, got, e)
		}
	}
}
