package lexer_test

import (
	"math"
	"reflect"
	"strings"
	"testing"

	"truchman/api"
	"truchman/decimal"
	"truchman/escape"
	"truchman/lexer"
)

// state is what bytes come to: all tokens of them, what is held, and the error.
type state struct {
	tokens []lexer.Token
	held   int
	open   string // what stands behind the last token: "" between tokens, s, n, w
	number string // of n: its bytes
	e      api.Errno
}

// sign, text, number, word make tokens.
func sign(b byte) lexer.Token       { return lexer.Token{Kind: b} }
func text(s string) lexer.Token     { return lexer.Token{Kind: 's', Text: s} }
func number(mag uint64) lexer.Token { return lexer.Token{Kind: 'n', Num: api.Whole{Mag: mag}} }
func below(mag uint64) lexer.Token {
	return lexer.Token{Kind: 'n', Num: api.Whole{Neg: true, Mag: mag}}
}
func list(t ...lexer.Token) []lexer.Token { return t }

// model reads bytes from their beginning on, token by token.
func model(s string) state {
	var st state
	for s != "" && st.e == api.OK && st.open == "" {
		switch {
		case strings.IndexByte(" \t\n\r", s[0]) >= 0:
			s = s[1:]
		case strings.IndexByte("{}[]:,", s[0]) >= 0:
			st.tokens = append(st.tokens, sign(s[0]))
			s = s[1:]
		case s[0] == '"':
			s = st.modelString(s[1:])
		case s[0] == '-' || s[0] >= '0' && s[0] <= '9':
			s = st.modelNumber(s)
		default:
			s = st.modelWord(s)
		}
	}
	if st.e != api.OK {
		st.open, st.held = "", 0
	}
	return st
}

// modelString reads what is behind a quote, and tells what is behind the string.
func (st *state) modelString(s string) string {
	var r escape.Reader
	all := ""
	for k := range len(s) {
		if s[k] == '"' && r.Whole() {
			st.tokens = append(st.tokens, text(all))
			return s[k+1:]
		}
		known, e := r.Step(s[k])
		all += known
		if e == api.OK && len(all) > 200 {
			e = api.ErrLarge
		}
		if e != api.OK {
			st.e = e
			return ""
		}
	}
	st.open, st.held = "s", len(all)
	return ""
}

// modelNumber reads a number, and tells what is behind it.
func (st *state) modelNumber(s string) string {
	n := 0
	if s[0] == '-' {
		n = 1
	}
	if n < len(s) && s[n] == '0' {
		n++
	} else {
		for n < len(s) && s[n] >= '0' && s[n] <= '9' {
			n++
		}
	}
	if n == len(s) {
		st.open, st.number = "n", s
		return ""
	}
	whole, e := decimal.Parse(s[:n])
	switch {
	case s[:n] == "-", s[n] >= '0' && s[n] <= '9':
		e = api.ErrForm
	case strings.IndexByte(".eE", s[n]) >= 0:
		e = api.ErrFloat
	}
	if e != api.OK {
		st.e = e
		return ""
	}
	st.tokens = append(st.tokens, lexer.Token{Kind: 'n', Num: whole})
	return s[n:]
}

// modelWord reads a word, and tells what is behind it.
func (st *state) modelWord(s string) string {
	for word, kind := range map[string]byte{"true": 't', "false": 'f', "null": '0'} {
		switch {
		case strings.HasPrefix(s, word):
			st.tokens = append(st.tokens, sign(kind))
			return s[len(word):]
		case strings.HasPrefix(word, s):
			st.open = "w"
			return ""
		}
	}
	st.e = api.ErrForm
	return ""
}

// atEnd tells what End tells behind a state.
func (st state) atEnd() ([]lexer.Token, api.Errno) {
	switch {
	case st.e != api.OK:
		return nil, st.e
	case st.open == "n":
		whole, e := decimal.Parse(st.number)
		if e != api.OK {
			return nil, e
		}
		return list(lexer.Token{Kind: 'n', Num: whole}), api.OK
	case st.open != "":
		return nil, api.ErrMore
	}
	return nil, api.OK
}

// same tells whether lists are alike; one that has nothing may be nil.
func same(a, b []lexer.Token) bool {
	return len(a) == 0 && len(b) == 0 || reflect.DeepEqual(a, b)
}

// asks holds an answer against the one that is wanted.
func asks(t *testing.T, what string, got []lexer.Token, e api.Errno, want []lexer.Token, wantE api.Errno) {
	t.Helper()
	if !same(got, want) || e != wantE {
		t.Errorf("%.90q: tells %v, %d; not %v, %d", what, got, e, want, wantE)
	}
}

// agrees steps through bytes, and asks behind each what the model says.
func agrees(t *testing.T, s string) {
	t.Helper()
	var l lexer.Lexer
	var had, now state
	for k := range len(s) {
		if now.e == api.OK {
			had, now = now, model(s[:k+1])
		}
		got, e := l.Step(s[k])
		var want []lexer.Token
		if now.e == api.OK {
			want = now.tokens[len(had.tokens):]
		}
		if !same(got, want) || e != now.e || l.Held() != now.held {
			t.Fatalf("%q: tells %v, %d, holds %d; not %v, %d, %d", s[:k+1], got, e, l.Held(), want, now.e, now.held)
		}
	}
	want, wantE := now.atEnd()
	got, e := l.End()
	if !same(got, want) || e != wantE || l.Held() != 0 {
		t.Fatalf("%q: its End tells %v, %d, holds %d; not %v, %d", s, got, e, l.Held(), want, wantE)
	}
}

// through steps through bytes that have no error, and tells the lexer and all
// tokens of them.
func through(t *testing.T, s string) (*lexer.Lexer, []lexer.Token) {
	t.Helper()
	l := &lexer.Lexer{}
	var all []lexer.Token
	for k := range len(s) {
		got, e := l.Step(s[k])
		if e != api.OK {
			t.Fatalf("%.90q: byte %d tells %d", s, k, e)
		}
		all = append(all, got...)
	}
	return l, all
}

// tells asks what the byte behind bytes without an error tells.
func tells(t *testing.T, ahead string, b byte, want []lexer.Token, wantE api.Errno) {
	t.Helper()
	l, _ := through(t, ahead)
	got, e := l.Step(b)
	asks(t, "behind "+ahead+" "+string(rune(b)), got, e, want, wantE)
	if e != api.OK && l.Held() != 0 {
		t.Errorf("%#x behind %q: holds %d", b, ahead, l.Held())
	}
}

// ends asks what End tells behind bytes without an error.
func ends(t *testing.T, ahead string, want []lexer.Token, wantE api.Errno) {
	t.Helper()
	l, _ := through(t, ahead)
	got, e := l.End()
	asks(t, "End behind "+ahead, got, e, want, wantE)
}

// comes asks what bytes come to, with their end.
func comes(t *testing.T, s string, want ...lexer.Token) {
	t.Helper()
	l, all := through(t, s)
	more, e := l.End()
	asks(t, s, append(all, more...), e, want, api.OK)
}

// betweens are bytes behind which it is between tokens.
func betweens() []string {
	return []string{"", " ", "\n\t\r ", "{", "}", "[", "]", ":", ",", `""`, `"a"`, `"\""`, "true", "false", "null", "7,", "-0 ", "true ", `{"a":[1,null],"b":false}`}
}

// opens are bytes behind which a token is open.
func opens() []string {
	return []string{
		`"`, `"a`, `"\`, `"\u`, `"\u00e`, `"\ud83d`, `"\ud83d\`, "\"\xc3", "\"é", "\"a\xe2\x82", `"a" "b`,
		"-", "0", "-0", "7", "-12", "[10", "18446744073709551615", "18446744073709551616", "-18446744073709551616", "-18446744073709551617", "1 2",
		"t", "tr", "tru", "f", "fa", "fal", "fals", "n", "nu", "nul", "truefalsenul",
	}
}

// notes are bytes of every sort that is asked for, and at its edges.
func notes() []byte {
	return []byte("\x00\x08\t\n\x0b\r\x1f !\"+,-./0129:;DEU[\\]abdeflnrstuxz{|}\x7f\x80\x82\xa9\xc3\xe2\xff")
}

func TestP1001BetweenTokens(t *testing.T) {
	for b := range 256 {
		var want []lexer.Token
		e := api.OK
		switch {
		case strings.IndexByte("{}[]:,", byte(b)) >= 0:
			want = list(sign(byte(b)))
		case strings.IndexByte(" \t\n\r\"-0123456789tfn", byte(b)) < 0 || b >= 0x80:
			e = api.ErrForm
		}
		for _, ahead := range betweens() {
			tells(t, ahead, byte(b), want, e)
		}
	}
}

func TestP1001Tokens(t *testing.T) {
	comes(t, "")
	comes(t, " \t\n\r \r\n")
	comes(t, "{}[]:,", sign('{'), sign('}'), sign('['), sign(']'), sign(':'), sign(','))
	comes(t, "[12,true]", sign('['), number(12), sign(','), sign('t'), sign(']'))
	comes(t, ` { "a" : -1 , "b":[null]}`, sign('{'), text("a"), sign(':'), below(0), sign(','), text("b"), sign(':'), sign('['), sign('0'), sign(']'), sign('}'))
	comes(t, `"true" true`, text("true"), sign('t'))
	comes(t, `""`, text(""))
	comes(t, `"a\"b\\" "\u00e9\ud83d\ude00"`, text(`a"b\`), text("é😀"))
	comes(t, "\"é€😀 \"", text("é€😀 "))
	comes(t, "0 -0 7 -7 10 0", number(0), number(0), number(7), below(6), number(10), number(0))
	comes(t, "18446744073709551615 -18446744073709551616", number(math.MaxUint64), below(math.MaxUint64))
}

// TestP1001NeedNotBeParted holds that what follows a token is between tokens.
func TestP1001NeedNotBeParted(t *testing.T) {
	comes(t, "truefalsenulltrue", sign('t'), sign('f'), sign('0'), sign('t'))
	comes(t, `"a""b"12"c"true"d"`, text("a"), text("b"), number(12), text("c"), sign('t'), text("d"))
	comes(t, "0-0-1-10null1", number(0), number(0), below(0), below(9), sign('0'), number(1))
	comes(t, "null0true1false2", sign('0'), number(0), sign('t'), number(1), sign('f'), number(2))
	comes(t, "1true2null3false", number(1), sign('t'), number(2), sign('0'), number(3), sign('f'))
	comes(t, "[[{{]}::,,", sign('['), sign('['), sign('{'), sign('{'), sign(']'), sign('}'), sign(':'), sign(':'), sign(','), sign(','))
}

// TestP1001WhenItIsTold holds which byte tells a token.
func TestP1001WhenItIsTold(t *testing.T) {
	for s, told := range map[string][]int{
		"12,": {0, 0, 2}, "1 2 ": {0, 1, 0, 1}, "1-2:": {0, 1, 0, 2}, "1\"\"": {0, 1, 1}, "1t": {0, 1}, "0]": {0, 2}, "1\n": {0, 1},
		"true": {0, 0, 0, 1}, "null,": {0, 0, 0, 1, 1}, "false": {0, 0, 0, 0, 1}, `"a"`: {0, 0, 1}, `"\""`: {0, 0, 0, 1}, "{ }": {1, 0, 1},
	} {
		var l lexer.Lexer
		for k := range len(s) {
			if got, e := l.Step(s[k]); len(got) != told[k] || e != api.OK {
				t.Errorf("%q: byte %d tells %v, %d", s, k, got, e)
			}
		}
	}
	tells(t, "12", ',', list(number(12), sign(',')), api.OK)
	tells(t, "-3", ' ', list(below(2)), api.OK)
	tells(t, "0", '"', list(number(0)), api.OK)
}

// TestP1001BehindANumber holds each byte behind a number.
func TestP1001BehindANumber(t *testing.T) {
	for ahead, token := range map[string]lexer.Token{"7": number(7), "-12": below(11), "0": number(0), "-0": number(0)} {
		for b := range 256 {
			want, e := list(token), api.OK
			switch c := byte(b); {
			case c >= '0' && c <= '9':
				want = nil
				if strings.HasSuffix(ahead, "0") {
					e = api.ErrForm
				}
			case strings.IndexByte(".eE", c) >= 0:
				want, e = nil, api.ErrFloat
			case strings.IndexByte("{}[]:,", c) >= 0:
				want = append(want, sign(c))
			case b >= 0x80 || strings.IndexByte(" \t\n\r\"-tfn", c) < 0:
				want, e = nil, api.ErrForm
			}
			tells(t, ahead, byte(b), want, e)
			tells(t, "["+ahead+","+ahead, byte(b), want, e)
		}
	}
}

func TestP1001BehindAMinus(t *testing.T) {
	for b := range 256 {
		e := api.ErrForm
		if b >= '0' && b <= '9' {
			e = api.OK
		}
		tells(t, "-", byte(b), nil, e)
		tells(t, "true-", byte(b), nil, e)
	}
}

func TestP1001NumberOutOfRange(t *testing.T) {
	for _, s := range []string{"18446744073709551616", "-18446744073709551617", "99999999999999999999999", "-1" + strings.Repeat("0", 400)} {
		for _, b := range []byte(" ,]}[{:\"-tfnx\x00\xff") {
			tells(t, s, b, nil, api.ErrRange)
		}
		for _, b := range []byte(".eE") {
			tells(t, s, b, nil, api.ErrFloat)
		}
		tells(t, s, '0', nil, api.OK)
		ends(t, s, nil, api.ErrRange)
	}
}

// TestP1001Words holds each byte in each place of a word.
func TestP1001Words(t *testing.T) {
	for word, kind := range map[string]byte{"true": 't', "false": 'f', "null": '0'} {
		for k := 1; k < len(word); k++ {
			for b := range 256 {
				var want []lexer.Token
				e := api.ErrForm
				if byte(b) == word[k] {
					e = api.OK
				}
				if e == api.OK && k == len(word)-1 {
					want = list(sign(kind))
				}
				for _, ahead := range []string{"", "[", "true", "12 "} {
					tells(t, ahead+word[:k], byte(b), want, e)
				}
			}
		}
	}
}

// TestP1001InAString holds each byte of a string, and what ends it.
func TestP1001InAString(t *testing.T) {
	for b := range 256 {
		var want []lexer.Token
		e := api.OK
		switch {
		case b == '"':
			want = list(text("ab"))
		case b < 32:
			e = api.ErrForm
		case b >= 0x80 && (b < 0xc2 || b > 0xf4):
			e = api.ErrUtf
		}
		tells(t, `"ab`, byte(b), want, e)
		tells(t, `[true,12"ab`, byte(b), want, e)
	}
}

// TestP1001QuotesOfTheReader holds that a quote ends a string only if nothing is open.
func TestP1001QuotesOfTheReader(t *testing.T) {
	tells(t, `"a\`, '"', nil, api.OK)
	tells(t, `"a\"`, '"', list(text(`a"`)), api.OK)
	tells(t, `"a\\`, '"', list(text(`a\`)), api.OK)
	tells(t, `"\u00`, '"', nil, api.ErrForm)
	tells(t, "\"\xc3", '"', nil, api.ErrForm)
	tells(t, `"\ud83d`, '"', nil, api.ErrUtf)
	tells(t, `"\ud83d\ude0`, '"', nil, api.ErrUtf)
	tells(t, `"\u0022`, '"', list(text(`"`)), api.OK)
}

func TestP1001ReadersErrors(t *testing.T) {
	tells(t, `"\`, 'x', nil, api.ErrForm)
	tells(t, `"\u0`, 'g', nil, api.ErrForm)
	tells(t, `"\udc0`, '0', nil, api.ErrUtf)
	tells(t, `"\ud83d`, 'a', nil, api.ErrUtf)
	tells(t, "\"a\xc3", 'a', nil, api.ErrUtf)
	tells(t, "\"a", '\n', nil, api.ErrForm)
}

// long are insides whose texts have as many bytes as may be.
func long() []string {
	a := strings.Repeat("a", 200)
	return []string{a, strings.Repeat("é", 100), strings.Repeat(`\u00e9`, 100), strings.Repeat(`\n`, 200), a[:196] + `\ud83d\ude00`, a[:196] + "😀", a[:199] + `\"`, a[:197] + `\u20ac`}
}

func TestP1001MaxText(t *testing.T) {
	if api.MaxText != 200 {
		t.Fatalf("a text has up to %d bytes", api.MaxText)
	}
	for _, s := range long() {
		want, _ := escape.Read(s)
		comes(t, `"`+s+`"`, text(want))
		comes(t, `["`+s+`","`+s+`"`, sign('['), text(want), sign(','), text(want))
		for _, b := range []byte("a /\xc3\xf0") {
			tells(t, `"`+s, b, nil, api.ErrLarge)
		}
		tells(t, `"`+s+`\`, 'n', nil, api.ErrLarge)
		tells(t, `"`+s+`\`, '"', nil, api.ErrLarge)
		tells(t, `"`+s+`\u004`, '1', nil, api.ErrLarge)
		tells(t, `"`+s+`\ud83d\ude0`, '0', nil, api.ErrLarge)
	}
}

// TestP1001MaxTextInTheMidst holds that it is asked what a text comes to, not where it was.
func TestP1001MaxTextInTheMidst(t *testing.T) {
	a := strings.Repeat("a", 199)
	tells(t, `"`+a+`\u00e`, '9', nil, api.ErrLarge)
	tells(t, `"`+a+`\u004`, '1', nil, api.OK)
	tells(t, `"`+a[:197]+`\ud83d\ude0`, '0', nil, api.ErrLarge)
	tells(t, `"`+a+"\xc3", '\xa9', nil, api.ErrLarge)
	tells(t, `"`+a[1:]+`\u20a`, 'c', nil, api.ErrLarge)
}

// TestP1001ReadersAheadOfLarge holds that of two errors the one that is named first counts.
func TestP1001ReadersAheadOfLarge(t *testing.T) {
	for _, s := range long() {
		tells(t, `"`+s, '\n', nil, api.ErrForm)
		tells(t, `"`+s, '\xff', nil, api.ErrUtf)
		tells(t, `"`+s+`\`, 'x', nil, api.ErrForm)
		tells(t, `"`+s+`\udc0`, '0', nil, api.ErrUtf)
	}
}

// wrongs are bytes of which the last one has an error.
func wrongs() map[string]api.Errno {
	return map[string]api.Errno{
		"x": api.ErrForm, "[1,\x00": api.ErrForm, "trux": api.ErrForm, "nul1": api.ErrForm, "01": api.ErrForm, "-x": api.ErrForm, "1x": api.ErrForm, "\"\n": api.ErrForm, `"ab\x`: api.ErrForm, "\"\xc3\"": api.ErrForm,
		"1.": api.ErrFloat, "-0e": api.ErrFloat, "0E": api.ErrFloat, "18446744073709551616,": api.ErrRange, "-18446744073709551617\"": api.ErrRange,
		"\"\xff": api.ErrUtf, `"ab\udc00`: api.ErrUtf, `"\ud800"`: api.ErrUtf, `"` + strings.Repeat("a", 201): api.ErrLarge,
	}
}

func TestP1001BehindAnErrorItIsThatError(t *testing.T) {
	for s, want := range wrongs() {
		last := len(s) - 1
		for b := range 256 {
			l, _ := through(t, s[:last])
			l.Step(s[last])
			for range 2 {
				got, e := l.Step(byte(b))
				asks(t, s, got, e, nil, want)
				got, e = l.End()
				asks(t, s+" at its end", got, e, nil, want)
			}
			for _, b := range []byte("\" true 12 ,\"a\"[") {
				got, e := l.Step(b)
				asks(t, s, got, e, nil, want)
				if l.Held() != 0 {
					t.Errorf("%q: holds %d", s, l.Held())
				}
			}
		}
	}
}

// TestP1001WithAnErrorNoTokens holds that a number ahead of a wrong byte is not told.
func TestP1001WithAnErrorNoTokens(t *testing.T) {
	for s, want := range wrongs() {
		l, _ := through(t, s[:len(s)-1])
		got, e := l.Step(s[len(s)-1])
		asks(t, s, got, e, nil, want)
	}
}

func TestP1001TokensAreTheirOwn(t *testing.T) {
	l, _ := through(t, `12`)
	one, _ := l.Step(',')
	other, _ := through(t, `12`)
	two, _ := other.Step(',')
	one[0], one[1] = sign('x'), sign('y')
	one = append(one[:1], sign('z'))
	asks(t, "another's", two, api.OK, list(number(12), sign(',')), api.OK)
	for _, b := range []byte("34:") {
		two, _ = l.Step(b)
	}
	asks(t, "the next", two, api.OK, list(number(34), sign(':')), api.OK)
	if one[1] != sign('z') {
		t.Errorf("%v was written into", one)
	}
}

func TestP1001EachItsOwn(t *testing.T) {
	for _, s := range opens() {
		one, _ := through(t, s)
		other, _ := through(t, `["a`)
		again := *one
		held := one.Held()
		again.Step(1)
		if again.Held() != 0 || one.Held() != held || other.Held() != 1 {
			t.Errorf("%q: %d, %d, %d", s, again.Held(), one.Held(), other.Held())
		}
		got, e := other.Step('"')
		asks(t, s, got, e, list(text("a")), api.OK)
	}
	one, _ := through(t, `"ab`)
	again := *one
	again.Step('x')
	one.Step('y')
	got, e := again.Step('"')
	asks(t, "a copy", got, e, list(text("abx")), api.OK)
	got, e = one.Step('"')
	asks(t, "behind its copy", got, e, list(text("aby")), api.OK)
}

func TestP1002End(t *testing.T) {
	for _, s := range betweens() {
		ends(t, s, nil, api.OK)
	}
	for s, token := range map[string]lexer.Token{"0": number(0), "-0": number(0), "12": number(12), "-12": below(11), "true7": number(7), "18446744073709551615": number(math.MaxUint64), "-18446744073709551616": below(math.MaxUint64)} {
		ends(t, s, list(token), api.OK)
		ends(t, "1 "+s, list(token), api.OK)
	}
	for _, s := range []string{"-", "1-", "[-"} {
		ends(t, s, nil, api.ErrForm)
	}
	for _, s := range []string{"18446744073709551616", "-18446744073709551617"} {
		ends(t, s, nil, api.ErrRange)
	}
	for _, s := range opens() {
		if strings.IndexByte("0123456789-", s[len(s)-1]) < 0 || s[0] == '"' {
			ends(t, s, nil, api.ErrMore)
		}
	}
}

// TestP1002ThenBetweenTokens holds that an End without an error leaves nothing behind.
func TestP1002ThenBetweenTokens(t *testing.T) {
	for _, s := range append(betweens(), "0", "-5", "12", "[7") {
		l, _ := through(t, s)
		if _, e := l.End(); e != api.OK || l.Held() != 0 {
			t.Fatalf("%q: %d, holds %d", s, e, l.Held())
		}
		for range 2 {
			got, e := l.End()
			asks(t, s+" at its end, again", got, e, nil, api.OK)
		}
		for k, b := range []byte("7,true ") {
			got, e := l.Step(b)
			want := [][]lexer.Token{nil, list(number(7), sign(',')), nil, nil, nil, list(sign('t')), nil}[k]
			asks(t, s+" and more", got, e, want, api.OK)
		}
	}
}

// TestP1002BehindItsError holds that an error of End stays like all others.
func TestP1002BehindItsError(t *testing.T) {
	for s, want := range map[string]api.Errno{`"`: api.ErrMore, `"ab`: api.ErrMore, `"\`: api.ErrMore, "t": api.ErrMore, "nul": api.ErrMore, "-": api.ErrForm, "18446744073709551616": api.ErrRange} {
		for _, b := range []byte(" \"[1tel,0") {
			l, _ := through(t, s)
			l.End()
			for range 2 {
				if l.Held() != 0 {
					t.Errorf("%q: holds %d", s, l.Held())
				}
				got, e := l.Step(b)
				asks(t, s, got, e, nil, want)
				got, e = l.End()
				asks(t, s+" at its end", got, e, nil, want)
			}
		}
	}
}

func TestP1002Held(t *testing.T) {
	s := "1\"a\\u00e9\xc3\xa9\\ud83d\\ude00\\n\" \"b\" true[\"\""
	want := []int{0, 0, 1, 1, 1, 1, 1, 1, 3, 4, 5, 5, 5, 5, 5, 5, 5, 5, 5, 5, 5, 5, 9, 9, 10, 0, 0, 0, 1, 0, 0, 0, 0, 0, 0, 0, 0, 0}
	if len(s) != len(want) {
		t.Fatalf("%d bytes, %d wanted", len(s), len(want))
	}
	var l lexer.Lexer
	if l.Held() != 0 {
		t.Errorf("a zero one holds %d", l.Held())
	}
	for k := range len(s) {
		l.Step(s[k])
		for range 2 {
			if l.Held() != want[k] {
				t.Errorf("behind %q: holds %d, not %d", s[:k+1], l.Held(), want[k])
			}
		}
	}
}

func TestP1002HeldOutsideOfStrings(t *testing.T) {
	for _, s := range []string{"1234", "-", "tru", "[{:,", " ", `"abc"`, `"abc"1`, `"abc"t`} {
		if l, _ := through(t, s); l.Held() != 0 {
			t.Errorf("%q: holds %d", s, l.Held())
		}
	}
	l, _ := through(t, `"`+strings.Repeat("a", 200))
	if l.Held() != 200 {
		t.Errorf("holds %d, not 200", l.Held())
	}
	l.Step('a')
	if l.Held() != 0 {
		t.Errorf("behind an error it holds %d", l.Held())
	}
}

func TestP1002Nil(t *testing.T) {
	var none *lexer.Lexer
	for b := range 256 {
		got, e := none.Step(byte(b))
		asks(t, "nil", got, e, nil, api.ErrState)
	}
	got, e := none.End()
	asks(t, "nil at its end", got, e, nil, api.ErrState)
	if none.Held() != 0 {
		t.Errorf("nil holds %d", none.Held())
	}
}

// TestP1002BesideTheModel goes on from many beginnings by all that there is of few bytes.
func TestP1002BesideTheModel(t *testing.T) {
	for _, ahead := range append(opens(), betweens()...) {
		for _, a := range notes() {
			for _, b := range notes() {
				agrees(t, ahead+string([]byte{a, b}))
			}
		}
	}
	for _, a := range notes() {
		for _, b := range notes() {
			for _, c := range notes() {
				agrees(t, string([]byte{a, b, c}))
			}
		}
	}
}

// draws makes numbers below others, always the same ones.
func draws(seed uint32) func(n int) int {
	return func(n int) int {
		seed = seed*1_664_525 + 1_013_904_223
		return int(seed>>8) % n
	}
}

// TestP1002LongWay goes through long texts whose tokens are known, then hurt ones beside the model.
func TestP1002LongWay(t *testing.T) {
	pieces := []string{"{", "}", "[", "]", ":", ",", `"a"`, `""`, `"\"\\"`, `"é😀"`, `"\ud83d\ude00"`, "true", "false", "null", "-1 ", "0 ", "42,", "7[", "18446744073709551615\n"}
	tokens := [][]lexer.Token{
		{sign('{')}, {sign('}')}, {sign('[')}, {sign(']')}, {sign(':')}, {sign(',')}, {text("a")}, {text("")}, {text(`"\`)}, {text("é😀")}, {text("😀")},
		{sign('t')}, {sign('f')}, {sign('0')}, {below(0)}, {number(0)}, {number(42), sign(',')}, {number(7), sign('[')}, {number(math.MaxUint64)},
	}
	draw := draws(10)
	for range 2_000 {
		s := ""
		var want []lexer.Token
		for range draw(20) {
			k := draw(len(pieces))
			s += " \t\n\r"[:draw(5)] + pieces[k]
			want = append(want, tokens[k]...)
		}
		comes(t, s, want...)
		agrees(t, s)
		if s == "" {
			continue
		}
		hurt := []byte(s)
		hurt[draw(len(hurt))] = notes()[draw(len(notes()))]
		agrees(t, string(hurt))
		agrees(t, s[draw(len(s)):])
	}
}
