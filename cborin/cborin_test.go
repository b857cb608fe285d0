package cborin_test

import (
	"math"
	"reflect"
	"strings"
	"testing"

	"truchman/api"
	"truchman/cborin"
	"truchman/event"
)

// Parts, by short names.
var (
	arr   = api.Begin{Count: -1}
	dict  = api.Begin{Map: true, Count: -1}
	end   = api.Close{}
	zero  = api.Whole{}
	one   = api.Whole{Mag: 1}
	two   = api.Whole{Mag: 2}
	wordA = api.Word("a")
	wordB = api.Word("b")
)

func arrOf(n int) api.Begin  { return api.Begin{Count: n} }
func dictOf(n int) api.Begin { return api.Begin{Map: true, Count: n} }

func list(parts ...any) []any { return parts }

// comes asks what all of some bytes come to, and each beginning of them.
func comes(t *testing.T, s string, depth int, want []any, wantE api.Errno) {
	t.Helper()
	got, e := agrees(t, s, depth)
	if !same(got, want) || e != wantE {
		t.Errorf("%.200q: %v, %d; not %v, %d", s, got, e, want, wantE)
	}
}

// through steps through bytes that have no error, and tells the parser.
func through(t *testing.T, s string, depth int) *cborin.Parser {
	t.Helper()
	p := cborin.New(depth)
	for k := range len(s) {
		if _, e := p.Step(s[k]); e != api.OK {
			t.Fatalf("%.200q: byte %d tells %d", s, k, e)
		}
	}
	return p
}

// tells asks what the byte behind bytes without an error tells.
func tells(t *testing.T, ahead string, b byte, want []any, wantE api.Errno) {
	t.Helper()
	p := through(t, ahead, 4)
	if got, e := p.Step(b); !same(got, want) || e != wantE {
		t.Errorf("%x behind %.200q: tells %v, %d; not %v, %d", b, ahead, got, e, want, wantE)
	}
	if wantE != api.OK {
		stays(t, p, wantE)
	}
}

// stays asks that all is that error, with no parts.
func stays(t *testing.T, p *cborin.Parser, want api.Errno) {
	t.Helper()
	for _, b := range []byte("\x00\x80\xff\x61a\x1c\x9f\xff\xf6") {
		if parts, e := p.Step(b); len(parts) != 0 || e != want {
			t.Errorf("Step(%x) behind error %d: %v, %d", b, want, parts, e)
		}
		if e := p.End(); e != want {
			t.Errorf("End behind error %d: %d", want, e)
		}
		if p.Held() != 0 || p.Done() {
			t.Errorf("behind error %d: holds %d, done %v", want, p.Held(), p.Done())
		}
	}
}

func TestP1301New(t *testing.T) {
	if api.MaxDepth != 16 || api.MaxText != 200 || cborin.MaxCount != 1_000_000 {
		t.Fatalf("limits are %d, %d, %d", api.MaxDepth, api.MaxText, cborin.MaxCount)
	}
	for _, depth := range []int{math.MinInt, -17, -1, 0, 17, 18, 32, 1 << 32, 1<<32 + 1, math.MaxInt} {
		if cborin.New(depth) != nil {
			t.Errorf("New(%d) is not nil", depth)
		}
	}
	for depth := 1; depth <= 16; depth++ {
		p := cborin.New(depth)
		if p == nil {
			t.Fatalf("New(%d) is nil", depth)
		}
		if p == cborin.New(depth) || p.Held() != 0 || p.Done() || p.End() != api.ErrMore {
			t.Errorf("New(%d): holds %d, done %v", depth, p.Held(), p.Done())
		}
	}
}

func TestP1301Values(t *testing.T) {
	comes(t, "\xf6", 1, list(nil), api.OK)
	comes(t, "\xf5", 1, list(true), api.OK)
	comes(t, "\xf4", 1, list(false), api.OK)
	for s, n := range map[string]uint64{
		"\x00": 0, "\x01": 1, "\x17": 23, "\x18\x18": 24, "\x18\x64": 100, "\x18\xff": 255, "\x19\x01\x00": 256, "\x19\xff\xff": 65_535,
		"\x1a\x00\x01\x00\x00": 65_536, "\x1a\xff\xff\xff\xff": 1<<32 - 1, "\x1b\x00\x00\x00\x01\x00\x00\x00\x00": 1 << 32,
		"\x1b\x7f\xff\xff\xff\xff\xff\xff\xff": math.MaxInt64, "\x1b\x80\x00\x00\x00\x00\x00\x00\x00": 1 << 63, "\x1b\xff\xff\xff\xff\xff\xff\xff\xff": math.MaxUint64,
		// Longer than it takes is no error.
		"\x18\x00": 0, "\x18\x17": 23, "\x19\x00\xff": 255, "\x1a\x00\x00\x00\x05": 5, "\x1b\x01\x02\x03\x04\x05\x06\x07\x08": 0x0102030405060708,
	} {
		comes(t, s, 1, list(api.Whole{Mag: n}), api.OK)
		comes(t, string([]byte{s[0] | 0x20})+s[1:], 1, list(api.Whole{Neg: true, Mag: n}), api.OK)
	}
}

func TestP1301Texts(t *testing.T) {
	for _, text := range []string{"", "a", "hi", "é", "\u20ac", "\U0010ffff", "\x00\x7f", "\"\\", strings.Repeat("x", 23)} {
		comes(t, string([]byte{0x60 | byte(len(text))})+text, 1, list(api.Word(text)), api.OK)
		comes(t, string([]byte{0x40 | byte(len(text))})+text, 1, list(api.Blob(text)), api.OK)
	}
	for _, n := range []int{0, 1, 24, 199, 200} {
		text := strings.Repeat("x", n)
		for _, form := range []string{"\x78", "\x79\x00", "\x7a\x00\x00\x00", "\x7b\x00\x00\x00\x00\x00\x00\x00"} {
			s := form[1:] + string([]byte{byte(n)}) + text
			comes(t, form[:1]+s, 1, list(api.Word(text)), api.OK)
			comes(t, string([]byte{form[0] ^ 0x20})+s, 1, list(api.Blob(text)), api.OK)
		}
	}
	// Bytes are whatever they are.
	comes(t, "\x45\xff\x00\xc3\x5f\xf6", 1, list(api.Blob("\xff\x00\xc3\x5f\xf6")), api.OK)
	comes(t, "\x65\x1c\x60\x00\x01\x40", 1, list(api.Word("\x1c\x60\x00\x01\x40")), api.OK)
}

func TestP1301Chunks(t *testing.T) {
	comes(t, "\x7f\xff", 1, list(api.Word("")), api.OK)
	comes(t, "\x5f\xff", 1, list(api.Blob("")), api.OK)
	comes(t, "\x7f\x60\xff", 1, list(api.Word("")), api.OK)
	comes(t, "\x7f\x60\x60\x61a\x60\xff", 1, list(wordA), api.OK)
	comes(t, "\x7f\x61a\x78\x02bc\x7b\x00\x00\x00\x00\x00\x00\x00\x01d\xff", 1, list(api.Word("abcd")), api.OK)
	comes(t, "\x5f\x42\xff\x00\x40\x59\x00\x01\x5f\xff", 1, list(api.Blob("\xff\x00\x5f")), api.OK)
	comes(t, "\x7f\x62\xc3\xa9\x64\xf0\x9f\x98\x80\xff", 1, list(api.Word("é\U0001f600")), api.OK)
	comes(t, "\x83\x7f\x61a\xff\x5f\x41a\xff\x7f\x61b\xff", 1, list(arrOf(3), wordA, api.Blob("a"), wordB, end), api.OK)
	comes(t, "\xa1\x7f\x61a\xff\x7f\x61b\xff", 1, list(dictOf(1), wordA, wordB, end), api.OK)
	comes(t, "\xbf\x7f\xff\x5f\xff\xff", 1, list(dict, api.Word(""), api.Blob(""), end), api.OK)
	comes(t, "\x9f\x7f\xff\x7f\xff\xff", 1, list(arr, api.Word(""), api.Word(""), end), api.OK)
}

// TestP1301NoChunk holds what is no chunk: of another major, open itself, or of
// no form; in all places that a text may stand.
func TestP1301NoChunk(t *testing.T) {
	for _, ahead := range []string{"", "\x81", "\x9f", "\xa1\x61a", "\xbf\x61a", "\xa1", "\xbf"} {
		for _, major := range []byte{2, 3} {
			if major == 2 && len(ahead) == 1 && ahead[0] > 0xa0 {
				continue // at a key's place are no bytes
			}
			for _, chunks := range []string{"", string([]byte{major << 5}), string([]byte{major<<5 | 1, 'a'})} {
				began := ahead + string([]byte{major<<5 | 31}) + chunks
				for b := range 256 {
					want := api.ErrForm
					if byte(b>>5) == major && b&31 < 28 || b == 0xff {
						want = api.OK
					}
					p := through(t, began, 2)
					_, e := p.Step(byte(b))
					if e != want {
						t.Errorf("%x behind %x: tells %d", b, began, e)
					}
					if want != api.OK {
						stays(t, p, want)
					}
				}
			}
		}
	}
}

func TestP1301Containers(t *testing.T) {
	comes(t, "\x82\x01\xf6", 1, list(arrOf(2), one, nil, end), api.OK)
	comes(t, "\x80", 1, list(arrOf(0), end), api.OK)
	comes(t, "\xa0", 1, list(dictOf(0), end), api.OK)
	comes(t, "\x9f\xff", 1, list(arr, end), api.OK)
	comes(t, "\xbf\xff", 1, list(dict, end), api.OK)
	for _, form := range []string{"\x98", "\x99\x00", "\x9a\x00\x00\x00", "\x9b\x00\x00\x00\x00\x00\x00\x00"} {
		comes(t, form+"\x00", 1, list(arrOf(0), end), api.OK)
		comes(t, form+"\x01\x02", 1, list(arrOf(1), two, end), api.OK)
		of := string([]byte{form[0] | 0x20}) + form[1:]
		comes(t, of+"\x00", 1, list(dictOf(0), end), api.OK)
		comes(t, of+"\x01\x61a\x02", 1, list(dictOf(1), wordA, two, end), api.OK)
	}
	comes(t, "\xa2\x61a\x01\x61a\x61b", 1, list(dictOf(2), wordA, one, wordA, wordB, end), api.OK)
	comes(t, "\xbf\x61a\x01\x61b\xf4\xff", 1, list(dict, wordA, one, wordB, false, end), api.OK)
	comes(t, "\x9f\x01\x02\x9f\xff\x80\xff", 2, list(arr, one, two, arr, end, arrOf(0), end, end), api.OK)
	comes(t, "\x81\x81\x81\x01", 3, list(arrOf(1), arrOf(1), arrOf(1), one, end, end, end), api.OK)
	comes(t, "\x81\xa1\x61a\x9f\x81\x80\xff", 5, list(arrOf(1), dictOf(1), wordA, arr, arrOf(1), arrOf(0), end, end, end, end, end), api.OK)
	comes(t, "\xa1\x61a\xa1\x61b\xa0", 3, list(dictOf(1), wordA, dictOf(1), wordB, dictOf(0), end, end, end), api.OK)
	comes(t, "\x82\x82\x00\x01\x82\x02\x80", 3, list(arrOf(2), arrOf(2), zero, one, end, arrOf(2), two, arrOf(0), end, end, end), api.OK)
	comes(t, "\x98\x18"+strings.Repeat("\x01", 24), 1, append(append(list(arrOf(24)), many(one, 24)...), end), api.OK)
}

func many(v any, n int) []any {
	var l []any
	for range n {
		l = append(l, v)
	}
	return l
}

// TestP1301RfcExamples holds those of RFC 8949, appendix A, that parts have.
func TestP1301RfcExamples(t *testing.T) {
	var upTo25 []any
	for n := range 25 {
		upTo25 = append(upTo25, api.Whole{Mag: uint64(n + 1)})
	}
	last := "\x0c\x0d\x0e\x0f\x10\x11\x12\x13\x14\x15\x16\x17\x18\x18\x18\x19"
	for s, want := range map[string][]any{
		"\x1a\x00\x0f\x42\x40": {api.Whole{Mag: 1_000_000}}, "\x1b\x00\x00\x00\xe8\xd4\xa5\x10\x00": {api.Whole{Mag: 1_000_000_000_000}},
		"\x38\x63": {api.Whole{Neg: true, Mag: 99}}, "\x39\x03\xe7": {api.Whole{Neg: true, Mag: 999}}, "\x3b\xff\xff\xff\xff\xff\xff\xff\xff": {api.Whole{Neg: true, Mag: math.MaxUint64}},
		"\x44\x01\x02\x03\x04": {api.Blob("\x01\x02\x03\x04")}, "\x64IETF": {api.Word("IETF")}, "\x62\"\\": {api.Word("\"\\")}, "\x63\xe6\xb0\xb4": {api.Word("\u6c34")}, "\x64\xf0\x90\x85\x91": {api.Word("\U00010151")},
		"\x83\x01\x02\x03":                                            {arrOf(3), one, two, api.Whole{Mag: 3}, end},
		"\x83\x01\x82\x02\x03\x82\x04\x05":                            {arrOf(3), one, arrOf(2), two, api.Whole{Mag: 3}, end, arrOf(2), api.Whole{Mag: 4}, api.Whole{Mag: 5}, end, end},
		"\xa2\x61a\x01\x61b\x82\x02\x03":                              {dictOf(2), wordA, one, wordB, arrOf(2), two, api.Whole{Mag: 3}, end, end},
		"\x82\x61a\xa1\x61b\x61c":                                     {arrOf(2), wordA, dictOf(1), wordB, api.Word("c"), end, end},
		"\x5f\x42\x01\x02\x43\x03\x04\x05\xff":                        {api.Blob("\x01\x02\x03\x04\x05")},
		"\x7f\x65strea\x64ming\xff":                                   {api.Word("streaming")},
		"\x9f\x01\x82\x02\x03\x9f\x04\x05\xff\xff":                    {arr, one, arrOf(2), two, api.Whole{Mag: 3}, end, arr, api.Whole{Mag: 4}, api.Whole{Mag: 5}, end, end},
		"\x83\x01\x82\x02\x03\x9f\x04\x05\xff":                        {arrOf(3), one, arrOf(2), two, api.Whole{Mag: 3}, end, arr, api.Whole{Mag: 4}, api.Whole{Mag: 5}, end, end},
		"\xbf\x63Fun\xf5\x63Amt\x21\xff":                              {dict, api.Word("Fun"), true, api.Word("Amt"), api.Whole{Neg: true, Mag: 1}, end},
		"\x98\x19\x01\x02\x03\x04\x05\x06\x07\x08\x09\x0a\x0b" + last: append(append(list(arrOf(25)), upTo25...), end),
	} {
		comes(t, s, 4, want, api.OK)
	}
	for _, s := range []string{"\xf9\x00\x00", "\xfa\x47\xc3\x50\x00", "\xfb\x3f\xf1\x99\x99\x99\x99\x99\x9a"} {
		comes(t, s, 4, nil, api.ErrFloat)
	}
	for _, s := range []string{"\xf7", "\xf0", "\xf8\xff", "\xc1\x1a\x51\x4b\x67\xb0", "\xd7\x44\x01\x02\x03\x04", "\xd8\x18\x45\x64IETF"} {
		comes(t, s, 4, nil, api.ErrKind)
	}
	comes(t, "\xa2\x01\x02\x03\x04", 4, list(dictOf(2)), api.ErrKind)
}

// TestP1301WhenItIsTold holds which byte tells how many parts.
func TestP1301WhenItIsTold(t *testing.T) {
	for s, told := range map[string][]int{
		"\x82\x01\xf6": {1, 1, 2}, "\x18\x64": {0, 1}, "\x1b\x00\x00\x00\x00\x00\x00\x00\x05": {0, 0, 0, 0, 0, 0, 0, 0, 1},
		"\x62hi": {0, 0, 1}, "\x60": {1}, "\x40": {1}, "\x78\x00": {0, 1}, "\x78\x01a": {0, 0, 1}, "\x7f\xff": {0, 1}, "\x7f\x60\x61a\xff": {0, 0, 0, 0, 1},
		"\x80": {2}, "\xa0": {2}, "\x98\x00": {0, 2}, "\x9f\xff": {1, 1}, "\x99\x00\x01\x80": {0, 0, 1, 3}, "\x81\x81\x81\xf6": {1, 1, 1, 4},
		"\xa1\x61a\x62hi": {1, 0, 1, 0, 0, 2}, "\xbf\x60\x9f\xff\xff": {1, 1, 1, 1, 1}, "\x81\x9f\xff": {1, 1, 2}, "\x81\xa1\x60\x5f\xff": {1, 1, 1, 0, 3},
	} {
		p := cborin.New(4)
		for k := range len(s) {
			if got, e := p.Step(s[k]); len(got) != told[k] || e != api.OK {
				t.Errorf("%x: byte %d tells %v, %d", s, k, got, e)
			}
		}
		if !p.Done() || p.End() != api.OK {
			t.Errorf("%x: done %v, its End %d", s, p.Done(), p.End())
		}
	}
}

// hasForm tells whether RFC 8949 has such a first byte, but for a break.
func hasForm(b int) bool {
	return !strings.Contains("\x1c\x1d\x1e\x1f\x3c\x3d\x3e\x3f\x5c\x5d\x5e\x7c\x7d\x7e\x9c\x9d\x9e\xbc\xbd\xbe\xdc\xdd\xde\xdf\xfc\xfd\xfe", string([]byte{byte(b)}))
}

// first asks what each first byte tells behind some bytes.
func first(t *testing.T, ahead string, depth int, want func(b int) api.Errno) {
	t.Helper()
	for b := range 256 {
		p := through(t, ahead, depth)
		got, e := p.Step(byte(b))
		if e != want(b) {
			t.Errorf("%x behind %x, depth %d: tells %d, not %d", b, ahead, depth, e, want(b))
		}
		if e != api.OK && len(got) != 0 {
			t.Errorf("%x behind %x: an error, and %v", b, ahead, got)
		}
		if e != api.OK {
			stays(t, p, e)
		}
		agrees(t, ahead+string([]byte{byte(b)}), depth)
	}
}

// value tells what is to be told of a first byte where a value is wanted.
func value(b int, mayBreak, full bool) api.Errno {
	switch {
	case !hasForm(b), b == 0xff && !mayBreak:
		return api.ErrForm
	case b == 0xff, b >= 0xf4 && b <= 0xf6:
		return api.OK
	case b >= 0xf9 && b <= 0xfb:
		return api.ErrFloat
	case b >= 0xc0:
		return api.ErrKind
	case b >= 0x80 && full:
		return api.ErrDeep
	}
	return api.OK
}

func TestP1301FirstByteOfAValue(t *testing.T) {
	for ahead, mayBreak := range map[string]bool{
		"": false, "\x81": false, "\x82\x00": false, "\x9f": true, "\x9f\x00": true, "\x9f\x9f\xff": true, "\x9f\x82\x00": false, "\x81\x9f": true, "\xa1\x60\x9f": true,
		"\xa1\x60": false, "\xa2\x60\x00\x60": false, "\xbf\x60": false, "\xbf\x61a\x00\x60": false, "\x9f\xa1\x60": false, "\x9f\xbf\x60": false, "\x9f\x81\x00": true, "\x9f\x80": true, "\x82\x9f\xff": false,
	} {
		first(t, ahead, 4, func(b int) api.Errno { return value(b, mayBreak, false) })
	}
}

func TestP1301FirstByteOfAKey(t *testing.T) {
	for ahead, mayBreak := range map[string]bool{
		"\xa1": false, "\xa2\x60\x00": false, "\xa2\x60\x80": false, "\x9f\xa1": false, "\xbf\x60\xa1": false,
		"\xbf": true, "\xbf\x60\x00": true, "\xbf\x60\xbf\xff": true, "\xbf\x60\x81\x00": true, "\x81\xbf": true, "\xa1\x60\xbf": true, "\xbf\x7f\xff\x5f\xff": true,
	} {
		for _, depth := range []int{2, 3} {
			first(t, ahead, depth, func(b int) api.Errno {
				switch {
				case !hasForm(b), b == 0xff && !mayBreak:
					return api.ErrForm
				case b == 0xff, b >= 0x60 && b <= 0x7f:
					return api.OK
				}
				return api.ErrKind
			})
		}
	}
}

func TestP1301FirstByteBehindAll(t *testing.T) {
	for _, ahead := range []string{"\x00", "\x18\x64", "\xf6", "\x60", "\x62hi", "\x7f\x61a\xff", "\x40", "\x80", "\xa0", "\x9f\xff", "\xbf\xff", "\x81\x81\x00", "\xa1\x61a\x80"} {
		first(t, ahead, 2, func(int) api.Errno { return api.ErrForm })
	}
}

// TestP1301FirstByteFullDepth holds that no more may be in one another, and
// that what is told ahead of that is told.
func TestP1301FirstByteFullDepth(t *testing.T) {
	for ahead, mayBreak := range map[string]bool{"\x81": false, "\x9f": true, "\xa1\x60": false, "\xbf\x60": false, "\x83\x00\x60": false} {
		first(t, ahead, 1, func(b int) api.Errno { return value(b, mayBreak, true) })
	}
	for ahead, mayBreak := range map[string]bool{"\x81\x81": false, "\x82\x80\x81": false, "\x9f\x9f": true, "\xbf\x60\x9f": true, "\x82\xa1\x60\x00\xa1\x60": false} {
		first(t, ahead, 2, func(b int) api.Errno { return value(b, mayBreak, true) })
	}
}

func TestP1301Breaks(t *testing.T) {
	comes(t, "\x9f\x9f\xff\xff", 2, list(arr, arr, end, end), api.OK)
	comes(t, "\x81\x9f\xff", 2, list(arrOf(1), arr, end, end), api.OK)
	comes(t, "\xbf\x61a\xbf\xff\xff", 2, list(dict, wordA, dict, end, end), api.OK)
	comes(t, "\xff", 2, nil, api.ErrForm)
	comes(t, "\x00\xff", 2, list(zero), api.ErrForm)
	comes(t, "\x9f\xff\xff", 2, list(arr, end), api.ErrForm)
	comes(t, "\x80\xff", 2, list(arrOf(0), end), api.ErrForm)
	comes(t, "\x82\x00\xff", 2, list(arrOf(2), zero), api.ErrForm)
	comes(t, "\x9f\x81\xff", 2, list(arr, arrOf(1)), api.ErrForm)
	comes(t, "\xa1\xff", 2, list(dictOf(1)), api.ErrForm)
	comes(t, "\xa1\x61a\xff", 2, list(dictOf(1), wordA), api.ErrForm)
	comes(t, "\xbf\x61a\xff", 2, list(dict, wordA), api.ErrForm)
	comes(t, "\xbf\x61a\x00\x61b\xff", 2, list(dict, wordA, zero, wordB), api.ErrForm)
	comes(t, "\x9f\xbf\x61a\xff", 2, list(arr, dict, wordA), api.ErrForm)
}

func TestP1301Deep(t *testing.T) {
	for depth := 1; depth <= 16; depth++ {
		for _, kind := range []struct {
			begin, close string
			parts        []any
		}{
			{"\x9f", "\xff", list(arr)}, {"\x81", "", list(arrOf(1))}, {"\x98\x01", "", list(arrOf(1))},
			{"\xbf\x61a", "\xff", list(dict, wordA)}, {"\xa1\x61a", "", list(dictOf(1), wordA)},
		} {
			var parts []any
			for range depth {
				parts = append(parts, kind.parts...)
			}
			ahead := strings.Repeat(kind.begin, depth)
			comes(t, ahead+"\x01"+strings.Repeat(kind.close, depth), depth, append(append(parts[:len(parts):len(parts)], one), many(end, depth)...), api.OK)
			for _, more := range []string{"\x80", "\x81", "\x9f", "\x98", "\x9b", "\xa0", "\xa1", "\xbf", "\xb9"} {
				comes(t, ahead+more, depth, parts, api.ErrDeep)
			}
		}
	}
	comes(t, "\x84\x80\x9f\xff\xa0\x81\x81", 2, list(arrOf(4), arrOf(0), end, arr, end, dictOf(0), end, arrOf(1)), api.ErrDeep)
}

// TestP1301Large holds which byte tells it: the last one of the head.
func TestP1301Large(t *testing.T) {
	for _, ahead := range []string{"", "\x81", "\x9f", "\xa1\x60", "\xbf\x60"} {
		for _, flip := range []byte{0, 0x20} {
			of := func(b byte) string { return ahead + string([]byte{b ^ flip}) }
			tells(t, of(0x78), 200, nil, api.OK)
			tells(t, of(0x78), 201, nil, api.ErrLarge)
			tells(t, of(0x78), 255, nil, api.ErrLarge)
			tells(t, of(0x79)+"\x00", 200, nil, api.OK)
			tells(t, of(0x79)+"\x01", 0, nil, api.ErrLarge)
			tells(t, of(0x79)+"\xff", 255, nil, api.ErrLarge)
			tells(t, of(0x7a)+"\x00\x01\x00", 0, nil, api.ErrLarge)
			tells(t, of(0x7a)+"\x00\x00\x00", 201, nil, api.ErrLarge)
			tells(t, of(0x7b)+"\x00\x00\x00\x01\x00\x00\x00", 0, nil, api.ErrLarge)
			tells(t, of(0x7b)+"\x00\x00\x00\x01\x00\x00\x00", 5, nil, api.ErrLarge)
			tells(t, of(0x7b)+"\x80\x00\x00\x00\x00\x00\x00", 5, nil, api.ErrLarge)
			tells(t, of(0x7b)+"\xff\xff\xff\xff\xff\xff\xff", 255, nil, api.ErrLarge)
		}
	}
	tells(t, "\xa1\x78", 201, nil, api.ErrLarge)
}

// TestP1301LargeOfChunks holds that all chunks so far count.
func TestP1301LargeOfChunks(t *testing.T) {
	for _, flip := range []byte{0, 0x20} {
		of := func(b byte, more string) string { return string([]byte{b ^ flip}) + more }
		x := func(n int) string { return strings.Repeat("x", n) }
		tells(t, of(0x7f, "")+of(0x78, ""), 201, nil, api.ErrLarge)
		tells(t, of(0x7f, "")+of(0x78, ""), 200, nil, api.OK)
		tells(t, of(0x7f, "")+of(0x61, "a")+of(0x78, ""), 199, nil, api.OK)
		tells(t, of(0x7f, "")+of(0x61, "a")+of(0x78, ""), 200, nil, api.ErrLarge)
		tells(t, of(0x7f, "")+of(0x61, "a")+of(0x7b, "\xff\xff\xff\xff\xff\xff\xff"), 255, nil, api.ErrLarge)
		full := of(0x7f, "") + of(0x78, "\x64"+x(100)) + of(0x60, "") + of(0x78, "\x64"+x(100))
		tells(t, full, 0x60^flip, nil, api.OK)
		tells(t, full, 0x61^flip, nil, api.ErrLarge)
		tells(t, full+of(0x60, ""), 0x77^flip, nil, api.ErrLarge)
		if flip == 0 {
			tells(t, full, 0xff, list(api.Word(x(200))), api.OK)
		} else {
			tells(t, full, 0xff, list(api.Blob(x(200))), api.OK)
		}
	}
	// What was ahead does not count: each text has room of its own.
	long := "\x7f\x78\xc8" + strings.Repeat("x", 200) + "\xff"
	comes(t, "\x82"+long+long, 1, list(arrOf(2), api.Word(long[3:203]), api.Word(long[3:203]), end), api.OK)
}

// TestP1301Utf holds which byte tells it: the first that may not follow, or the
// last one.
func TestP1301Utf(t *testing.T) {
	for ahead, bad := range map[string]string{
		"\x61": "\x80\xc1\xc3\xff\xed\xf0\xf5", "\x62": "\x80\xc0\xff\xf8", "\x62\xc3": "a\x7f\xc0\xff", "\x62a": "\xc3\xff\x80", "\x63\xe2\x82": "a\xe2", "\x63\xed": "\xa0\xbf", "\x63\xe0": "\x80\x9f",
		"\x64\xf0": "\x80\x8f", "\x64\xf4": "\x90", "\x62\xe2": "\x82", "\x63\xf0\x9f": "\x98", "\x78\x18abc": "\xff\xbf", "\x63\xc3\xa9": "\xc3",
		"\x7f\x61": "\xc3\xff", "\x7f\x62\xe2": "\x82", "\x7f\x61a\x61": "\xa9", "\x7f\x62\xc3\xa9\x62\xc3": "a",
		"\x81\x61": "\xc3", "\xa1\x61": "\xff", "\xbf\x60\x62\xc3": "\xc3", "\xbf\x7f\x61": "\xc3",
	} {
		for _, b := range []byte(bad) {
			tells(t, ahead, b, nil, api.ErrUtf)
		}
	}
	comes(t, "\x7f\x61\xc3\x61\xa9\xff", 1, nil, api.ErrUtf)
	comes(t, "\x82\x60\x61\xc3", 1, list(arrOf(2), api.Word("")), api.ErrUtf)
	// What was ahead does not count: each text is asked by itself.
	comes(t, "\x82\x62\xc3\xa9\x62\xc3\xa9", 1, list(arrOf(2), api.Word("é"), api.Word("é"), end), api.OK)
	comes(t, "\x82\x41\xc3\x61a", 1, list(arrOf(2), api.Blob("\xc3"), wordA, end), api.OK)
	comes(t, "\x5f\x41\xc3\x41\xff\xff", 1, list(api.Blob("\xc3\xff")), api.OK)
}

// TestP1301Range holds which byte tells it: the last one of the head.
func TestP1301Range(t *testing.T) {
	for _, ahead := range []string{"", "\x81", "\x9f", "\xa1\x60", "\xbf\x60"} {
		for _, flip := range []byte{0, 0x20} {
			of := func(b byte) string { return ahead + string([]byte{b ^ flip}) }
			begin := api.Begin{Map: flip != 0, Count: 1_000_000}
			tells(t, of(0x9a)+"\x00\x0f\x42", 0x40, list(begin), api.OK)
			tells(t, of(0x9a)+"\x00\x0f\x42", 0x41, nil, api.ErrRange)
			tells(t, of(0x9b)+"\x00\x00\x00\x00\x00\x0f\x42", 0x40, list(begin), api.OK)
			tells(t, of(0x9b)+"\x00\x00\x00\x00\x00\x0f\x42", 0x41, nil, api.ErrRange)
			tells(t, of(0x9a)+"\xff\xff\xff", 0xff, nil, api.ErrRange)
			for _, high := range []string{"\x00\x00\x00\x01", "\x80\x00\x00\x00", "\xff\xff\xff\xff", "\x00\x00\x01\x00"} {
				tells(t, of(0x9b)+high+"\x00\x00\x00", 0, nil, api.ErrRange)
				tells(t, of(0x9b)+high+"\x00\x00\x00", 1, nil, api.ErrRange)
				tells(t, of(0x9b)+high+"\xff\xff\xff", 0xff, nil, api.ErrRange)
			}
			begin.Count = 65_535
			tells(t, of(0x99)+"\xff", 0xff, list(begin), api.OK)
		}
	}
	// How deep it is counts first.
	p := through(t, "\x81", 1)
	if parts, e := p.Step(0x9a); len(parts) != 0 || e != api.ErrDeep {
		t.Errorf("a count in one too deep: %v, %d", parts, e)
	}
}

// TestP1301MostItems holds that as many items as may be come to an end.
func TestP1301MostItems(t *testing.T) {
	for head, item := range map[string]string{"\x9a\x00\x0f\x42\x40": "\xf6", "\xba\x00\x0f\x42\x40": "\x60\xf6"} {
		p := through(t, head+strings.Repeat(item, 999_999)+item[:len(item)-1], 1)
		if p.Done() || p.Held() != 1 {
			t.Errorf("%x: ahead of its last byte it is done, or holds %d", head, p.Held())
		}
		if parts, e := p.Step(0xf6); !same(parts, list(nil, end)) || e != api.OK || !p.Done() {
			t.Errorf("%x: its last byte tells %v, %d", head, parts, e)
		}
	}
}

// TestP1301NewEachTime holds that what is told shares nothing with what is
// told later.
func TestP1301NewEachTime(t *testing.T) {
	p := through(t, "\x9f\x81", 4)
	first, _ := p.Step(1)
	kept := append([]any(nil), first...)
	p.Step(0x81)
	later, _ := p.Step(2)
	if !same(first, kept) || !same(first, list(one, end)) || !same(later, list(two, end)) {
		t.Errorf("tells %v, then %v", first, later)
	}
	for k := range first {
		first[k] = wordB
	}
	if !same(later, list(two, end)) {
		t.Errorf("what was told later is %v", later)
	}
	// A word stays, whatever bytes come behind it.
	q := through(t, "\x82\x62h", 4)
	word, _ := q.Step('i')
	q.Step(0x62)
	q.Step('x')
	q.Step('y')
	if !same(word, list(api.Word("hi"))) {
		t.Errorf("the word is %v", word)
	}
}

func TestP1302End(t *testing.T) {
	for _, s := range []string{"\x00", "\x18\x64", "\xf6", "\x60", "\x62hi", "\x7f\xff", "\x80", "\xa1\x61a\x80", "\x9f\x00\xff"} {
		for k := range len(s) {
			p := through(t, s[:k], 4)
			if p.End() != api.ErrMore || p.End() != api.ErrMore {
				t.Errorf("End behind %x is %d", s[:k], p.End())
			}
		}
		p := through(t, s, 4)
		if p.End() != api.OK || p.End() != api.OK || !p.Done() || p.Held() != 0 {
			t.Errorf("End behind %x is %d, done %v", s, p.End(), p.Done())
		}
		if parts, e := p.Step(0xf6); len(parts) != 0 || e != api.ErrForm {
			t.Errorf("a second document behind %x: %v, %d", s, parts, e)
		}
		stays(t, p, api.ErrForm)
	}
}

// TestP1302EndOnlyAsks holds that an End that lacks bytes is no error that
// stays.
func TestP1302EndOnlyAsks(t *testing.T) {
	p := cborin.New(4)
	var all []any
	for _, b := range []byte("\xa1\x7f\x61a\x61b\xff\x9f\x19\x01\x00\xff") {
		if e := p.End(); e != api.ErrMore {
			t.Errorf("End is %d", e)
		}
		parts, e := p.Step(b)
		if e != api.OK {
			t.Errorf("Step(%x) is %d", b, e)
		}
		all = append(all, parts...)
	}
	if !same(all, list(dictOf(1), api.Word("ab"), arr, api.Whole{Mag: 256}, end, end)) || p.End() != api.OK {
		t.Errorf("%v, %d", all, p.End())
	}
}

func TestP1302EndTellsTheError(t *testing.T) {
	for s, want := range map[string]api.Errno{
		"\xff": api.ErrForm, "\x1c": api.ErrForm, "\x00\x00": api.ErrForm, "\xc0": api.ErrKind, "\xa1\x00": api.ErrKind, "\xf9": api.ErrFloat,
		"\x81\x81\x81": api.ErrDeep, "\x78\xc9": api.ErrLarge, "\x61\xff": api.ErrUtf, "\x9a\xff\xff\xff\xff": api.ErrRange,
	} {
		p := through(t, s[:len(s)-1], 2)
		if parts, e := p.Step(s[len(s)-1]); len(parts) != 0 || e != want {
			t.Errorf("%x: %v, %d", s, parts, e)
		}
		stays(t, p, want)
	}
}

// watch asks what is held, and whether it is done, behind each byte.
func watch(t *testing.T, s string, held []int, done string) {
	t.Helper()
	p := cborin.New(4)
	for k := range len(s) {
		p.Step(s[k])
		if p.Held() != held[k] || p.Done() != (done[k] == 'y') {
			t.Errorf("%x: holds %d, done %v", s[:k+1], p.Held(), p.Done())
		}
	}
}

func TestP1302HeldAndDone(t *testing.T) {
	watch(t, "\x82\x05\x62ab", []int{1, 1, 1, 2, 0}, "nnnny")
	watch(t, "\x81\x81\x81\x81\x00", []int{1, 2, 3, 4, 0}, "nnnny")
	watch(t, "\x9f\x9f\xff\x80\xff", []int{1, 2, 1, 1, 0}, "nnnny")
	watch(t, "\x80", []int{0}, "y")
	watch(t, "\x9b\x00\x00\x00\x00\x00\x00\x00\x01\x00", []int{0, 0, 0, 0, 0, 0, 0, 0, 1, 0}, "nnnnnnnnny")
	watch(t, "\x78\x03abc", []int{0, 0, 1, 2, 0}, "nnnny")
	watch(t, "\x64\xf0\x9f\x98\x80", []int{0, 1, 2, 3, 0}, "nnnny")
	watch(t, "\x7f\x61a\x60\x78\x02bc\xff", []int{0, 0, 1, 1, 1, 1, 2, 3, 0}, "nnnnnnnny")
	watch(t, "\xa1\x7f\x61a\xff\x42bc", []int{1, 1, 1, 2, 1, 1, 2, 0}, "nnnnnnny")
	watch(t, "\xbf\x60\x5f\x41a\xff\xff", []int{1, 1, 1, 1, 2, 1, 0}, "nnnnnny")
	watch(t, "\x81\x81\x81\x81\x81", []int{1, 2, 3, 4, 0}, "nnnnn")
	watch(t, "\x81\x63ab\xff", []int{1, 1, 2, 3, 0}, "nnnnn")
	watch(t, "\x80\x00\x00", []int{0, 0, 0}, "ynn")
	watch(t, "\x19\x01\x00", []int{0, 0, 0}, "nny")
}

func TestP1302All(t *testing.T) {
	shut := api.Ev{Kind: api.End}
	for s, want := range map[string][]api.Ev{
		"\x82\x01\xf6":               {{Kind: api.Array, Count: 2}, {Kind: api.Int, Mag: 1}, {Kind: api.Null}, shut},
		"\xbf\x61a\xf5\x61b\x21\xff": {{Kind: api.Map, Count: -1}, {Kind: api.Text, Text: "a"}, {Kind: api.Bool, Yes: true}, {Kind: api.Text, Text: "b"}, {Kind: api.Int, Yes: true, Mag: 1}, shut},
		"\xa0":                       {{Kind: api.Map}, shut},
		"\x42hi":                     {{Kind: api.Bytes, Text: "hi"}},
		"\xf4":                       {{Kind: api.Bool}},
	} {
		got, e := cborin.All(s, 1)
		if !reflect.DeepEqual(got, want) || e != api.OK || event.Check(got...) != api.OK {
			t.Errorf("All(%x) = %v, %d", s, got, e)
		}
	}
}

// TestP1302AllWithAnError holds the parts that All tells beside the first one.
func TestP1302AllWithAnError(t *testing.T) {
	comes(t, "", 4, nil, api.ErrMore)
	comes(t, "\x82\x01", 4, list(arrOf(2), one), api.ErrMore)
	comes(t, "\x82\x01\x62h", 4, list(arrOf(2), one), api.ErrMore)
	comes(t, "\xa1\x61a", 4, list(dictOf(1), wordA), api.ErrMore)
	comes(t, "\x19\x01", 4, nil, api.ErrMore)
	comes(t, "\x7f\x61a", 4, nil, api.ErrMore)
	comes(t, "\x82\x01\xf9\xff\x1c", 4, list(arrOf(2), one), api.ErrFloat)
	comes(t, "\x82\x01\xc0\x01", 4, list(arrOf(2), one), api.ErrKind)
	comes(t, "\x01\x02\xc0", 4, list(one), api.ErrForm)
	comes(t, "\x81\x80\x80", 4, list(arrOf(1), arrOf(0), end, end), api.ErrForm)
	comes(t, "\x81\x61\xff", 4, list(arrOf(1)), api.ErrUtf)
	comes(t, "\x81\x78\xff", 4, list(arrOf(1)), api.ErrLarge)
	comes(t, "\x81\x9a\x00\x0f\x42\x41", 4, list(arrOf(1)), api.ErrRange)
	comes(t, "\x9f\x9f\x9f\x9f\x9f", 4, list(arr, arr, arr, arr), api.ErrDeep)
}

func TestP1302AllOfADepthThatMayNotBe(t *testing.T) {
	for _, depth := range []int{math.MinInt, -1, 0, 17, math.MaxInt} {
		for _, s := range []string{"", "\x80", "\x00", "\xff", "\x61"} {
			if got, e := cborin.All(s, depth); len(got) != 0 || e != api.ErrArg {
				t.Errorf("All(%x, %d) = %v, %d", s, depth, got, e)
			}
		}
	}
}

// TestP1302None holds that a zero one, as a nil one, is not ready.
func TestP1302None(t *testing.T) {
	for _, p := range []*cborin.Parser{nil, {}, cborin.New(0), cborin.New(17)} {
		stays(t, p, api.ErrState)
	}
}

// TestP1301LongWay grows documents, and hurts them.
func TestP1301LongWay(t *testing.T) {
	draw, good := draws(), 0
	for range 6_000 {
		g := growing{draw: draw}
		depth := 1 + draw(16)
		g.value(min(depth, 4))
		s := g.bytes
		if len(s) > 250 {
			continue
		}
		comes(t, s, depth, g.parts, api.OK)
		if plain, e := cborin.All(s, depth); event.Check(plain...) != api.OK {
			t.Errorf("All(%x) = %v, %d", s, plain, e)
		}
		place, more := draw(len(s)), string([]byte{byte(draw(256))})
		if draw(2) == 0 {
			more = []string{"\xff", "\x80", "\x9f", "\x60", "\x61", "\x7f", "\xa1", "\xbf", "\x81", "\x00", "\xf6"}[draw(11)]
		}
		for _, hurt := range []string{s[:place] + more + s[place:], s[:place] + more + s[place+1:], s[:place] + s[place+1:], s[:place], s[place:]} {
			if _, e := agrees(t, hurt, depth); e == api.OK {
				good++
			}
		}
		agrees(t, s, 1+draw(5))
	}
	if good < 100 {
		t.Errorf("only %d are documents still", good)
	}
}

// live tells whether bytes have no error yet, and more may come.
func live(s string, depth int) bool {
	p := cborin.New(depth)
	for k := range len(s) {
		if _, e := p.Step(s[k]); e != api.OK {
			return false
		}
	}
	return !p.Done()
}

// ways asks all ways of some bytes, but what is behind an error or behind the
// document's end, of the model.
func ways(t *testing.T, bytes string, most, depth, least int) {
	t.Helper()
	ahead, good := []string{""}, 0
	for range most {
		var next []string
		for _, s := range ahead {
			for k := range len(bytes) {
				more := s + bytes[k:k+1]
				if _, e := agrees(t, more, depth); e == api.OK {
					good++
				}
				if live(more, depth) {
					next = append(next, more)
				}
			}
		}
		ahead = next
	}
	if good < least {
		t.Errorf("only %d of %x are documents", good, bytes)
	}
}

// TestP1301AllWays asks all ways of a few bytes.
func TestP1301AllWays(t *testing.T) {
	ways(t, "\x00\x60\x81\x82\x9f\xa1\xbf\xff", 6, 2, 100)
	ways(t, "\x18\x40\x5f\x61\x7f\x9f\xbf\xff", 6, 3, 100)
	ways(t, "\x01\x62\x7f\xa2\xc3\xa9\xe2\xff", 6, 1, 20)
	ways(t, "\x00\x01\x02\x58\x79\x98\x9f\xb8\xbf\xff", 5, 2, 100)
	ways(t, "\x20\x5f\x80\x9e\xa0\xa1\xbf\xc0\xf6\xf8\xfb\xff\x60", 5, 1, 10)
}

// TestP1301AllBytes asks all ways of two bytes, with some ahead.
func TestP1301AllBytes(t *testing.T) {
	for _, ahead := range []string{"", "\x81", "\xa1", "\xbf\x60", "\x9f", "\x7f", "\x5f\x40"} {
		for a := range 256 {
			for b := range 256 {
				agrees(t, ahead+string([]byte{byte(a), byte(b)}), 1)
			}
		}
	}
}
