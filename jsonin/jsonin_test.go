package jsonin_test

import (
	"encoding/json"
	"math"
	"reflect"
	"strings"
	"testing"

	"truchman/api"
	"truchman/event"
	"truchman/jsonin"
)

// Parts, by short names.
var (
	arr   = api.Begin{Count: -1}
	dict  = api.Begin{Map: true, Count: -1}
	end   = api.Close{}
	one   = api.Whole{Mag: 1}
	two   = api.Whole{Mag: 2}
	wordA = api.Word("a")
	wordB = api.Word("b")
)

func list(parts ...any) []any { return parts }

// comes asks what all of some bytes come to, and each beginning of them.
func comes(t *testing.T, s string, depth int, want []any, wantE api.Errno) {
	t.Helper()
	got, e := agrees(t, s, depth)
	if !same(got, want) || e != wantE {
		t.Errorf("%.200q: %v, %d; not %v, %d", s, got, e, want, wantE)
	}
}

// through steps through bytes that have no error, and tells the parser.
func through(t *testing.T, s string, depth int) *jsonin.Parser {
	t.Helper()
	p := jsonin.New(depth)
	for k := range len(s) {
		if _, e := p.Step(s[k]); e != api.OK {
			t.Fatalf("%.200q: byte %d tells %d", s, k, e)
		}
	}
	return p
}

// tells asks what the byte behind bytes without an error tells.
func tells(t *testing.T, ahead string, b byte, want []any, wantE api.Errno) {
	t.Helper()
	p := through(t, ahead, 4)
	if got, e := p.Step(b); !same(got, want) || e != wantE {
		t.Errorf("%q behind %q: tells %v, %d; not %v, %d", b, ahead, got, e, want, wantE)
	}
}

// ends asks what End tells behind bytes without an error.
func ends(t *testing.T, ahead string, want []any, wantE api.Errno) {
	t.Helper()
	p := through(t, ahead, 4)
	if got, e := p.End(); !same(got, want) || e != wantE {
		t.Errorf("End behind %q: tells %v, %d; not %v, %d", ahead, got, e, want, wantE)
	}
	if wantE != api.OK {
		stays(t, p, wantE)
	} else if !p.Done() || p.Held() != 0 {
		t.Errorf("%q: its End is OK; done %v, holds %d", ahead, p.Done(), p.Held())
	}
}

// stays asks that all is that error, with no parts.
func stays(t *testing.T, p *jsonin.Parser, want api.Errno) {
	t.Helper()
	for _, b := range []byte(" [1]{\"a\":null},x\xff") {
		if parts, e := p.Step(b); len(parts) != 0 || e != want {
			t.Errorf("Step(%q) behind error %d: %v, %d", b, want, parts, e)
		}
		if parts, e := p.End(); len(parts) != 0 || e != want {
			t.Errorf("End behind error %d: %v, %d", want, parts, e)
		}
		if p.Held() != 0 || p.Done() {
			t.Errorf("behind error %d: holds %d, done %v", want, p.Held(), p.Done())
		}
	}
}

func TestP1101New(t *testing.T) {
	if api.MaxDepth != 16 {
		t.Fatalf("up to %d containers are in one another", api.MaxDepth)
	}
	for _, depth := range []int{math.MinInt, -17, -1, 0, 17, 18, 32, 1 << 32, 1<<32 + 1, math.MaxInt} {
		if jsonin.New(depth) != nil {
			t.Errorf("New(%d) is not nil", depth)
		}
	}
	for depth := 1; depth <= 16; depth++ {
		p := jsonin.New(depth)
		if p == nil {
			t.Fatalf("New(%d) is nil", depth)
		}
		if p == jsonin.New(depth) || p.Held() != 0 || p.Done() {
			t.Errorf("New(%d): holds %d, done %v", depth, p.Held(), p.Done())
		}
	}
}

func TestP1101Values(t *testing.T) {
	comes(t, "null", 1, list(nil), api.OK)
	comes(t, "true", 1, list(true), api.OK)
	comes(t, "false", 1, list(false), api.OK)
	comes(t, "0", 1, list(api.Whole{}), api.OK)
	comes(t, "-0", 1, list(api.Whole{}), api.OK)
	comes(t, " 12 ", 1, list(api.Whole{Mag: 12}), api.OK)
	comes(t, "-5", 1, list(api.Whole{Neg: true, Mag: 4}), api.OK)
	comes(t, "18446744073709551615", 1, list(api.Whole{Mag: math.MaxUint64}), api.OK)
	comes(t, "-18446744073709551616\n", 1, list(api.Whole{Neg: true, Mag: math.MaxUint64}), api.OK)
	comes(t, `""`, 1, list(api.Word("")), api.OK)
	comes(t, "\"\\u00e9é\\\"\"", 1, list(api.Word(`éé"`)), api.OK)
	comes(t, `"`+strings.Repeat("a", 200)+`"`, 1, list(api.Word(strings.Repeat("a", 200))), api.OK)
}

func TestP1101Containers(t *testing.T) {
	comes(t, "[]", 1, list(arr, end), api.OK)
	comes(t, "{}", 1, list(dict, end), api.OK)
	comes(t, "\t[\n] ", 1, list(arr, end), api.OK)
	comes(t, `{"a":null}`, 1, list(dict, wordA, nil, end), api.OK)
	comes(t, ` { "a" : 1 , "b" : "a" } `, 1, list(dict, wordA, one, wordB, wordA, end), api.OK)
	comes(t, "[1,2]", 1, list(arr, one, two, end), api.OK)
	comes(t, `["a","b",true,false,null]`, 1, list(arr, wordA, wordB, true, false, nil, end), api.OK)
	comes(t, `{"a":1,"a":2}`, 1, list(dict, wordA, one, wordA, two, end), api.OK)
	comes(t, "[[],[[]],{}]", 3, list(arr, arr, end, arr, arr, end, end, dict, end, end), api.OK)
	comes(t, `{"a":{"b":[{}]},"b":1}`, 4, list(dict, wordA, dict, wordB, arr, dict, end, end, end, wordB, one, end), api.OK)
	comes(t, `[1,[2,{"a":false,"b":[]}],"b"]`, 4, list(arr, one, arr, two, dict, wordA, false, wordB, arr, end, end, end, wordB, end), api.OK)
}

// TestP1101WhenItIsTold holds which byte tells a part.
func TestP1101WhenItIsTold(t *testing.T) {
	for s, told := range map[string][]int{
		"[5,\"ab\"]": {1, 0, 1, 0, 0, 0, 1, 1}, "[1]": {1, 0, 2}, "12 ": {0, 0, 1}, "[1 ]": {1, 0, 1, 1}, "[[]]": {1, 1, 1, 1}, "true ": {0, 0, 0, 1, 0},
		`{"a":1}`: {1, 0, 0, 1, 0, 0, 2}, `{"a":null}`: {1, 0, 0, 1, 0, 0, 0, 0, 1, 1}, `{"a" : -1,`: {1, 0, 0, 1, 0, 0, 0, 0, 0, 1},
	} {
		p := jsonin.New(4)
		for k := range len(s) {
			if got, e := p.Step(s[k]); len(got) != told[k] || e != api.OK {
				t.Errorf("%q: byte %d tells %v, %d", s, k, got, e)
			}
		}
	}
}

// places are beginnings, and the tokens that may come behind each: a quote
// stands for a string, v for a number or a word.
func places() map[string]string {
	return map[string]string{
		"": `[{"v`, " ": `[{"v`, "[": `[{"v]`, "[1,": `[{"v`, "[[],": `[{"v`, `[{"a":`: `[{"v`, `{"a":`: `[{"v`, `{"a":1,"b":`: `[{"v`,
		"{": `"}`, "[{": `"}`, `{"a":1,`: `"`, `[{"a":{},`: `"`,
		`{"a"`: ":", `{"a":1,"b" `: ":",
		"[true": ",]", "[1 ": ",]", "[[]": ",]", "[[1]": ",]", `["a"`: ",]", `[{"a":null}`: ",]",
		`{"a":true`: ",}", `{"a":1 `: ",}", `{"a":[]`: ",}", `{"a":"b"`: ",}", `[{"a":{}`: ",}",
		"null": "", "1 ": "", `"a"`: "", "[]": "", "{}": "", "[[1]]": "", `{"a":1}`: "", "[] \n": "",
	}
}

// TestP1101Places holds which tokens may come in each place, and that all
// others are ErrForm.
func TestP1101Places(t *testing.T) {
	tokens := map[string]byte{"[": '[', "{": '{', "]": ']', "}": '}', ":": ':', ",": ',', `"a"`: '"', "null": 'v', "true": 'v', "false": 'v', "1 ": 'v', "-1 ": 'v'}
	for ahead, may := range places() {
		for token, sign := range tokens {
			p := through(t, ahead, 4)
			var e api.Errno
			for k := range len(token) {
				if e != api.OK {
					t.Errorf("%q behind %q tells %d ahead of its end", token, ahead, e)
				}
				_, e = p.Step(token[k])
			}
			if want := strings.IndexByte(may, sign) >= 0; want != (e == api.OK) || !want && e != api.ErrForm {
				t.Errorf("%q behind %q tells %d", token, ahead, e)
			}
			if e != api.OK {
				stays(t, p, api.ErrForm)
			}
			agrees(t, ahead+token, 4)
		}
	}
}

func TestP1101NotThere(t *testing.T) {
	comes(t, "[1,]", 4, list(arr, one), api.ErrForm)
	comes(t, "[,1]", 4, list(arr), api.ErrForm)
	comes(t, "[1,,1]", 4, list(arr, one), api.ErrForm)
	comes(t, "{,}", 4, list(dict), api.ErrForm)
	comes(t, `{"a":1,}`, 4, list(dict, wordA, one), api.ErrForm)
	comes(t, `{"a":}`, 4, list(dict, wordA), api.ErrForm)
	comes(t, `{"a"}`, 4, list(dict, wordA), api.ErrForm)
	comes(t, `{"a" 1}`, 4, list(dict, wordA), api.ErrForm)
	comes(t, `{"a","b"}`, 4, list(dict, wordA), api.ErrForm)
	comes(t, `{"a":1 "b":2}`, 4, list(dict, wordA, one), api.ErrForm)
	comes(t, `{"a":1:2}`, 4, list(dict, wordA, one), api.ErrForm)
	comes(t, `{"a"::1}`, 4, list(dict, wordA), api.ErrForm)
	comes(t, `["a":1]`, 4, list(arr, wordA), api.ErrForm)
	comes(t, "{1:2}", 4, list(dict), api.ErrForm)
	comes(t, "{null:2}", 4, list(dict), api.ErrForm)
	comes(t, "{[]:2}", 4, list(dict), api.ErrForm)
	comes(t, "[1 2]", 4, list(arr, one), api.ErrForm)
	comes(t, "[1}", 4, list(arr, one), api.ErrForm)
	comes(t, `{"a":1]`, 4, list(dict, wordA, one), api.ErrForm)
	comes(t, "{]", 4, list(dict), api.ErrForm)
	comes(t, "[}", 4, list(arr), api.ErrForm)
	for _, s := range []string{"]", "}", ":", ",", " ,1"} {
		comes(t, s, 4, nil, api.ErrForm)
	}
}

// TestP1101SecondDocument holds that nothing but blanks is behind a document.
func TestP1101SecondDocument(t *testing.T) {
	for s, want := range map[string][]any{"null": list(nil), "1 ": list(one), `"a"`: list(wordA), "[]": list(arr, end), `{"a":1}`: list(dict, wordA, one, end)} {
		comes(t, s+" \n\r\t ", 4, want, api.OK)
		for _, more := range []string{"[]", "{", "]", "}", ",", ":", "null", " true", "2", "-2 ", `"b"`, s} {
			comes(t, s+more, 4, want, api.ErrForm)
		}
		comes(t, s+"tr", 4, want, api.ErrMore)
		comes(t, s+`"b`, 4, want, api.ErrMore)
	}
	comes(t, "1,", 4, list(one), api.ErrForm)
	comes(t, "1]", 4, list(one), api.ErrForm)
}

func TestP1101Deep(t *testing.T) {
	for depth := 1; depth <= 16; depth++ {
		for _, kind := range []struct {
			begin, close string
			parts        []any
		}{{"[", "]", list(arr)}, {`{"a":`, "}", list(dict, wordA)}} {
			var parts, ends []any
			for range depth {
				parts, ends = append(parts, kind.parts...), append(ends, end)
			}
			ahead := strings.Repeat(kind.begin, depth)
			comes(t, ahead+"1"+strings.Repeat(kind.close, depth), depth, append(append(parts[:len(parts):len(parts)], one), ends...), api.OK)
			comes(t, ahead+"[", depth, parts, api.ErrDeep)
			comes(t, ahead+"{", depth, parts, api.ErrDeep)
			comes(t, ahead+"1["+strings.Repeat(kind.close, depth), depth, append(parts[:len(parts):len(parts)], one), api.ErrForm)
		}
	}
}

// TestP1101DeepCountsWhatIsOpen holds that containers beside one another count
// once, and that what may not come is ErrForm, however deep it is.
func TestP1101DeepCountsWhatIsOpen(t *testing.T) {
	comes(t, "[[],[],{},[]]", 2, list(arr, arr, end, arr, end, dict, end, arr, end, end), api.OK)
	comes(t, "[[],[[]]]", 2, list(arr, arr, end, arr), api.ErrDeep)
	comes(t, "[[]]", 1, list(arr), api.ErrDeep)
	comes(t, "[{}]", 1, list(arr), api.ErrDeep)
	comes(t, "[1[", 1, list(arr, one), api.ErrForm)
	comes(t, "[1 {", 1, list(arr, one), api.ErrForm)
	comes(t, "{[", 1, list(dict), api.ErrForm)
	comes(t, "{{", 1, list(dict), api.ErrForm)
	comes(t, `{"a"[`, 1, list(dict, wordA), api.ErrForm)
	comes(t, `{"a":1,[`, 1, list(dict, wordA, one), api.ErrForm)
	comes(t, "[][", 1, list(arr, end), api.ErrForm)
}

// TestP1101LexersErrors holds each one in places of all sorts, also where no
// token may come.
func TestP1101LexersErrors(t *testing.T) {
	hurt := map[string]api.Errno{
		"x": api.ErrForm, "\x0b": api.ErrForm, "trux": api.ErrForm, "01": api.ErrForm, "-x": api.ErrForm, "1x": api.ErrForm, "\"\n": api.ErrForm, `"\x`: api.ErrForm,
		"1.": api.ErrFloat, "1e": api.ErrFloat, "-0E": api.ErrFloat,
		"18446744073709551616 ": api.ErrRange, "-18446744073709551617,": api.ErrRange,
		"\"\xff": api.ErrUtf, `"\udc00`: api.ErrUtf, `"\ud800"`: api.ErrUtf,
		`"` + strings.Repeat("a", 201): api.ErrLarge, `"` + strings.Repeat("a", 199) + "é": api.ErrLarge,
	}
	for _, ahead := range []string{"", "[", "[1,", "[true", "[[]", "{", `{"a"`, `{"a":`, `{"a":null`, `{"a":1,`, "[]", "null ", `"a"`} {
		for s, want := range hurt {
			p := through(t, ahead+s[:len(s)-1], 4)
			if parts, e := p.Step(s[len(s)-1]); len(parts) != 0 || e != want {
				t.Errorf("%.200q behind %q: %v, %d; not %d", s, ahead, parts, e, want)
			}
			stays(t, p, want)
			agrees(t, ahead+s, 4)
		}
	}
}

// TestP1101SeveralTokens holds what is told of a Step that has two tokens.
func TestP1101SeveralTokens(t *testing.T) {
	tells(t, "[1", ',', list(one), api.OK)
	tells(t, "[1", ']', list(one, end), api.OK)
	tells(t, `{"a":1`, '}', list(one, end), api.OK)
	tells(t, `{"a":1`, ',', list(one), api.OK)
	tells(t, "[1", '}', list(one), api.ErrForm)
	tells(t, `{"a":1`, ']', list(one), api.ErrForm)
	tells(t, "[1", ':', list(one), api.ErrForm)
	tells(t, "[1", '[', list(one), api.ErrForm)
	tells(t, "[1", '{', list(one), api.ErrForm)
	tells(t, "1", ',', list(one), api.ErrForm)
	tells(t, "1", ']', list(one), api.ErrForm)
	tells(t, "[1 2", ']', nil, api.ErrForm)
	tells(t, "{1", ':', nil, api.ErrForm)
	tells(t, `{"a"1`, '}', nil, api.ErrForm)
	tells(t, "[] 1", ' ', nil, api.ErrForm)
	// The number is of the lexer's own, but its error is told alone.
	tells(t, "[1", 'x', nil, api.ErrForm)
	tells(t, "[1", '.', nil, api.ErrFloat)
	tells(t, "18446744073709551616", ']', nil, api.ErrRange)
}

// TestP1101NewEachTime holds that what is told shares nothing with what is
// told later.
func TestP1101NewEachTime(t *testing.T) {
	p := through(t, "[1", 4)
	first, _ := p.Step(']')
	for k := range first {
		first[k] = api.Word("hurt")
	}
	q := through(t, "[1", 4)
	kept, _ := q.Step(',')
	q.Step('2')
	later, e := q.Step(']')
	if !same(kept, list(one)) || !same(later, list(two, end)) || e != api.OK {
		t.Errorf("tells %v, then %v, %d", kept, later, e)
	}
	if parts, e := p.End(); len(parts) != 0 || e != api.OK || !p.Done() {
		t.Errorf("End: %v, %d, done %v", parts, e, p.Done())
	}
}

func TestP1102End(t *testing.T) {
	ends(t, "12", list(api.Whole{Mag: 12}), api.OK)
	ends(t, "-1", list(api.Whole{Neg: true}), api.OK)
	ends(t, "12 ", nil, api.OK)
	for _, s := range []string{"null", `"a"`, "[]", "{} \n", `{"a":[1]}`} {
		ends(t, s, nil, api.OK)
	}
}

// TestP1102EndTooSoon holds ErrMore, with the part that is known by the end.
func TestP1102EndTooSoon(t *testing.T) {
	for _, s := range []string{"", " \n", "[", "{", "[[]", "[null", "[true,", "[1 ", "[1,", `{"a"`, `{"a":`, `{"a":null`, `{"a":1,`, `{"a":1,"b"`, "[[[[", "tr", "[nul", `"`, `"x`, `["\u00`, `[] "a`, "1 t"} {
		ends(t, s, nil, api.ErrMore)
	}
	ends(t, "[1", list(one), api.ErrMore)
	ends(t, "[1,2", list(two), api.ErrMore)
	ends(t, `{"a":1`, list(one), api.ErrMore)
	ends(t, `[{"a":[1`, list(one), api.ErrMore)
}

// TestP1102EndOfWhatMayNotBe holds the errors of a number that is known by the
// end.
func TestP1102EndOfWhatMayNotBe(t *testing.T) {
	for _, s := range []string{"{1", `{"a"1`, "[1 2", "[[]1", `{"a":1,2`, "[]1", "1 2", "null-1", "-", "[-", `{"a":-`, "[]-"} {
		ends(t, s, nil, api.ErrForm)
	}
	for _, s := range []string{"18446744073709551616", "[-18446744073709551617", "{18446744073709551616", "[] 18446744073709551616"} {
		ends(t, s, nil, api.ErrRange)
	}
}

// TestP1102BehindAnEnd holds that an End that is OK is no error: blanks may
// come, a second document may not.
func TestP1102BehindAnEnd(t *testing.T) {
	for _, s := range []string{"12", "null", "[1]", `{"a":{}} `} {
		p := through(t, s, 4)
		p.End()
		for range 3 {
			if parts, e := p.Step(' '); len(parts) != 0 || e != api.OK || !p.Done() {
				t.Errorf("a blank behind the End of %q: %v, %d, done %v", s, parts, e, p.Done())
			}
			if parts, e := p.End(); len(parts) != 0 || e != api.OK || !p.Done() {
				t.Errorf("a second End of %q: %v, %d, done %v", s, parts, e, p.Done())
			}
		}
		if parts, e := p.Step('1'); len(parts) != 0 || e != api.OK {
			t.Errorf("a digit behind the End of %q: %v, %d", s, parts, e)
		}
		if parts, e := p.End(); len(parts) != 0 || e != api.ErrForm {
			t.Errorf("the End of a second document behind %q: %v, %d", s, parts, e)
		}
		stays(t, p, api.ErrForm)
	}
}

// watch asks what is held, and whether it is done, behind each byte.
func watch(t *testing.T, s string, held []int, done string) {
	t.Helper()
	p := jsonin.New(4)
	for k := range len(s) {
		p.Step(s[k])
		if p.Held() != held[k] || p.Done() != (done[k] == 'y') {
			t.Errorf("%q: holds %d, done %v", s[:k+1], p.Held(), p.Done())
		}
	}
}

func TestP1102HeldAndDone(t *testing.T) {
	watch(t, `[5,"ab"] `, []int{1, 1, 1, 1, 2, 3, 1, 0, 0}, "nnnnnnnyy")
	watch(t, `{"a":["b"]}`, []int{1, 1, 2, 1, 1, 2, 2, 3, 2, 1, 0}, "nnnnnnnnnny")
	watch(t, "[[[[]]]]", []int{1, 2, 3, 4, 3, 2, 1, 0}, "nnnnnnny")
	watch(t, `"a\u00e9" `, []int{0, 1, 1, 1, 1, 1, 1, 3, 0, 0}, "nnnnnnnnyy")
	watch(t, "[12,-3]", []int{1, 1, 1, 1, 1, 1, 0}, "nnnnnny")
	watch(t, "12 ", []int{0, 0, 0}, "nny")
	watch(t, "null ", []int{0, 0, 0, 0, 0}, "nnnyy")
	watch(t, "[{}x", []int{1, 2, 1, 0}, "nnnn")
	watch(t, "[[[[[", []int{1, 2, 3, 4, 0}, "nnnnn")
	watch(t, "[\"ab\n", []int{1, 1, 2, 3, 0}, "nnnnn")
	watch(t, "[],", []int{1, 0, 0}, "nyn")
	watch(t, `[] "ab"`, []int{1, 0, 0, 0, 1, 2, 0}, "nyyyyyn")
}

func TestP1102All(t *testing.T) {
	open, shut := api.Ev{Kind: api.Array, Count: -1}, api.Ev{Kind: api.End}
	for s, want := range map[string][]api.Ev{
		`{"a":null}`: {{Kind: api.Map, Count: -1}, {Kind: api.Text, Text: "a"}, {Kind: api.Null}, shut},
		"[true,-2]":  {open, {Kind: api.Bool, Yes: true}, {Kind: api.Int, Yes: true, Mag: 1}, shut},
		"[false,2]":  {open, {Kind: api.Bool}, {Kind: api.Int, Mag: 2}, shut},
		"3":          {{Kind: api.Int, Mag: 3}},
	} {
		got, e := jsonin.All(s, 1)
		if !reflect.DeepEqual(got, want) || e != api.OK || event.Check(got...) != api.OK {
			t.Errorf("All(%q) = %v, %d", s, got, e)
		}
	}
}

// TestP1102AllWithAnError holds the parts that All tells beside the first one.
func TestP1102AllWithAnError(t *testing.T) {
	comes(t, "", 4, nil, api.ErrMore)
	comes(t, "[1", 4, list(arr, one), api.ErrMore)
	comes(t, `{"a"`, 4, list(dict, wordA), api.ErrMore)
	comes(t, "[1,]x\xff", 4, list(arr, one), api.ErrForm)
	comes(t, "[1.5]", 4, list(arr), api.ErrFloat)
	comes(t, "[18446744073709551616]", 4, list(arr), api.ErrRange)
	comes(t, "[18446744073709551616", 4, list(arr), api.ErrRange)
	comes(t, "[1,1x", 4, list(arr, one), api.ErrForm)
	comes(t, "[[[[[", 4, list(arr, arr, arr, arr), api.ErrDeep)
	comes(t, "[\"\xff", 4, list(arr), api.ErrUtf)
	comes(t, "1 \"a", 4, list(one), api.ErrMore)
}

func TestP1102AllOfADepthThatMayNotBe(t *testing.T) {
	for _, depth := range []int{math.MinInt, -1, 0, 17, math.MaxInt} {
		for _, s := range []string{"", "[]", "1", "x"} {
			if got, e := jsonin.All(s, depth); len(got) != 0 || e != api.ErrArg {
				t.Errorf("All(%q, %d) = %v, %d", s, depth, got, e)
			}
		}
	}
}

// TestP1102None holds that a zero one, as a nil one, is not ready.
func TestP1102None(t *testing.T) {
	for _, p := range []*jsonin.Parser{nil, {}, jsonin.New(0), jsonin.New(17)} {
		stays(t, p, api.ErrState)
	}
}

// TestP1101LongWay grows documents, and hurts them.
func TestP1101LongWay(t *testing.T) {
	draw, good := draws(), 0
	for range 6_000 {
		g := growing{draw: draw}
		depth := 1 + draw(16)
		g.value(min(depth, 5))
		s := g.text.String()
		if len(s) > 300 {
			continue
		}
		comes(t, s, depth, g.parts, api.OK)
		place, more := draw(len(s)), []string{"[", "]", "{", "}", ":", ",", `"`, "1", "n", "x", " ", "\xc3", "\n", "."}[draw(14)]
		for _, hurt := range []string{s[:place] + more + s[place:], s[:place] + more + s[place+1:], s[:place] + s[place+1:], s[:place], s[place:]} {
			if _, e := agrees(t, hurt, depth); e == api.OK {
				good++
			}
		}
		agrees(t, s, 1+draw(5))
	}
	if good < 100 {
		t.Errorf("only %d are documents still", good)
	}
}

// live tells whether bytes have no error yet.
func live(s string) bool {
	p := jsonin.New(16)
	for k := range len(s) {
		if _, e := p.Step(s[k]); e != api.OK {
			return false
		}
	}
	return true
}

// all asks all ways of some pieces, but what is behind an error, of the model
// and of the library, whose limits are other ones.
func all(t *testing.T, pieces []string, most, least int) {
	t.Helper()
	ways, good := []string{""}, 0
	for range most {
		var next []string
		for _, s := range ways {
			for _, piece := range pieces {
				_, e := agrees(t, s+piece, 16)
				if (e == api.OK) != json.Valid([]byte(s+piece)) {
					t.Fatalf("%q: tells %d", s+piece, e)
				}
				if e == api.OK {
					good++
				}
				if live(s + piece) {
					next = append(next, s+piece)
				}
				agrees(t, s+piece, 1)
				agrees(t, s+piece, 2)
			}
		}
		ways = next
	}
	if good < least {
		t.Errorf("only %d are documents", good)
	}
}

// TestP1101AllTokens asks all ways of a few tokens.
func TestP1101AllTokens(t *testing.T) {
	all(t, []string{"[", "]", "{", "}", ":", ",", `"a"`, "1 ", "null"}, 7, 100)
}

// TestP1101AllBytes asks all ways of a few bytes.
func TestP1101AllBytes(t *testing.T) {
	all(t, []string{"[", "]", "{", "}", ":", ",", `"`, "1", " "}, 6, 100)
}
