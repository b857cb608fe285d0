package packin_test

import (
	"math"
	"reflect"
	"strings"
	"testing"

	"truchman/api"
	"truchman/cborin"
	"truchman/event"
	"truchman/packin"
)

// Parts, by short names.
var (
	end   = api.Close{}
	zero  = api.Whole{}
	one   = api.Whole{Mag: 1}
	two   = api.Whole{Mag: 2}
	wordA = api.Word("a")
	wordB = api.Word("b")
)

func arrOf(n int) api.Begin  { return api.Begin{Count: n} }
func dictOf(n int) api.Begin { return api.Begin{Map: true, Count: n} }

func list(parts ...any) []any { return parts }

func many(v any, n int) []any {
	var l []any
	for range n {
		l = append(l, v)
	}
	return l
}

// comes asks what all of some bytes come to, and each beginning of them.
func comes(t *testing.T, s string, depth int, want []any, wantE api.Errno) {
	t.Helper()
	got, e := agrees(t, s, depth)
	if !same(got, want) || e != wantE {
		t.Errorf("%.200q: %v, %d; not %v, %d", s, got, e, want, wantE)
	}
}

// through steps through bytes that have no error, and tells the parser.
func through(t *testing.T, s string, depth int) *packin.Parser {
	t.Helper()
	p := packin.New(depth)
	for k := range len(s) {
		if _, e := p.Step(s[k]); e != api.OK {
			t.Fatalf("%.200q: byte %d tells %d", s, k, e)
		}
	}
	return p
}

// tells asks what the byte behind bytes without an error tells.
func tells(t *testing.T, ahead string, b byte, want []any, wantE api.Errno) {
	t.Helper()
	p := through(t, ahead, 4)
	if got, e := p.Step(b); !same(got, want) || e != wantE {
		t.Errorf("%x behind %.200q: tells %v, %d; not %v, %d", b, ahead, got, e, want, wantE)
	}
	if wantE != api.OK {
		stays(t, p, wantE)
	}
}

// stays asks that all is that error, with no parts.
func stays(t *testing.T, p *packin.Parser, want api.Errno) {
	t.Helper()
	for _, b := range []byte("\x00\x80\xc1\xa1a\x91\xc7\xff\xc0") {
		if parts, e := p.Step(b); len(parts) != 0 || e != want {
			t.Errorf("Step(%x) behind error %d: %v, %d", b, want, parts, e)
		}
		if e := p.End(); e != want {
			t.Errorf("End behind error %d: %d", want, e)
		}
		if p.Held() != 0 || p.Done() {
			t.Errorf("behind error %d: holds %d, done %v", want, p.Held(), p.Done())
		}
	}
}

func TestP1501New(t *testing.T) {
	if api.MaxDepth != 16 || api.MaxText != 200 || cborin.MaxCount != 1_000_000 {
		t.Fatalf("limits are %d, %d, %d", api.MaxDepth, api.MaxText, cborin.MaxCount)
	}
	for _, depth := range []int{math.MinInt, -17, -1, 0, 17, 18, 32, 1 << 32, 1<<32 + 1, math.MaxInt} {
		if packin.New(depth) != nil {
			t.Errorf("New(%d) is not nil", depth)
		}
	}
	for depth := 1; depth <= 16; depth++ {
		p := packin.New(depth)
		if p == nil {
			t.Fatalf("New(%d) is nil", depth)
		}
		if p == packin.New(depth) || p.Held() != 0 || p.Done() || p.End() != api.ErrMore {
			t.Errorf("New(%d): holds %d, done %v", depth, p.Held(), p.Done())
		}
	}
}

func TestP1501Values(t *testing.T) {
	comes(t, "\xc0", 1, list(nil), api.OK)
	comes(t, "\xc2", 1, list(false), api.OK)
	comes(t, "\xc3", 1, list(true), api.OK)
	for b := range 128 {
		comes(t, string([]byte{byte(b)}), 1, list(api.Whole{Mag: uint64(b)}), api.OK)
	}
	for b := range 32 {
		comes(t, string([]byte{byte(0xe0 + b)}), 1, list(api.Whole{Neg: true, Mag: uint64(31 - b)}), api.OK)
	}
}

func TestP1501Wholes(t *testing.T) {
	for s, n := range map[string]uint64{
		"\xcc\x00": 0, "\xcc\x05": 5, "\xcc\x7f": 127, "\xcc\x80": 128, "\xcc\xff": 255,
		"\xcd\x00\x00": 0, "\xcd\x00\xff": 255, "\xcd\x01\x00": 256, "\xcd\x01\x02": 258, "\xcd\x80\x00": 1 << 15, "\xcd\xff\xff": 65_535,
		"\xce\x00\x00\x00\x05": 5, "\xce\x00\x01\x00\x00": 65_536, "\xce\x01\x02\x03\x04": 0x01020304, "\xce\x80\x00\x00\x00": 1 << 31, "\xce\xff\xff\xff\xff": 1<<32 - 1,
		"\xcf\x00\x00\x00\x00\x00\x00\x00\x09": 9, "\xcf\x00\x00\x00\x01\x00\x00\x00\x00": 1 << 32, "\xcf\x01\x02\x03\x04\x05\x06\x07\x08": 0x0102030405060708,
		"\xcf\x7f\xff\xff\xff\xff\xff\xff\xff": math.MaxInt64, "\xcf\x80\x00\x00\x00\x00\x00\x00\x00": 1 << 63, "\xcf\xff\xff\xff\xff\xff\xff\xff\xff": math.MaxUint64,
	} {
		comes(t, s, 1, list(api.Whole{Mag: n}), api.OK)
	}
}

// TestP1501TwosComplement holds numbers that say whether they are below zero.
func TestP1501TwosComplement(t *testing.T) {
	for s, n := range map[string]int64{
		"\xd0\x00": 0, "\xd0\x01": 1, "\xd0\x7f": 127, "\xd0\x80": -128, "\xd0\x81": -127, "\xd0\xe0": -32, "\xd0\xdf": -33, "\xd0\xff": -1,
		"\xd1\x00\x00": 0, "\xd1\x00\x80": 128, "\xd1\x00\xff": 255, "\xd1\x7f\xff": 32_767, "\xd1\x80\x00": -32_768, "\xd1\xff\x7f": -129, "\xd1\xff\x80": -128, "\xd1\xff\xff": -1, "\xd1\xfe\xd4": -300,
		"\xd2\x00\x00\x80\x00": 32_768, "\xd2\x7f\xff\xff\xff": math.MaxInt32, "\xd2\x80\x00\x00\x00": math.MinInt32, "\xd2\xff\xff\x7f\xff": -32_769, "\xd2\xff\xff\xff\xfe": -2, "\xd2\xff\xff\xff\xff": -1, "\xd2\x80\x00\x00\x01": math.MinInt32 + 1,
		"\xd3\x00\x00\x00\x00\x00\x00\x00\x09": 9, "\xd3\x00\x00\x00\x00\x80\x00\x00\x00": 1 << 31, "\xd3\x7f\xff\xff\xff\xff\xff\xff\xff": math.MaxInt64, "\xd3\x80\x00\x00\x00\x00\x00\x00\x00": math.MinInt64,
		"\xd3\xff\xff\xff\xff\x7f\xff\xff\xff": math.MinInt32 - 1, "\xd3\xff\xff\xff\xff\xff\xff\xff\xff": -1, "\xd3\x80\x00\x00\x00\x00\x00\x00\x01": math.MinInt64 + 1,
	} {
		want := api.Whole{Mag: uint64(n)}
		if n < 0 {
			want = api.Whole{Neg: true, Mag: uint64(-1 - n)}
		}
		comes(t, s, 1, list(want), api.OK)
	}
	for b := range 256 {
		want := api.Whole{Mag: uint64(b)}
		if b > 127 {
			want = api.Whole{Neg: true, Mag: uint64(255 - b)}
		}
		comes(t, string([]byte{0xd0, byte(b)}), 1, list(want), api.OK)
	}
}

func TestP1501Texts(t *testing.T) {
	for n := range 32 {
		text := strings.Repeat("x", n)
		comes(t, string([]byte{byte(0xa0 + n)})+text, 1, list(api.Word(text)), api.OK)
	}
	for _, text := range []string{"", "a", "hi", "é", "\u20ac", "\U0010ffff", "\x00\x7f", "\"\\"} {
		comes(t, string([]byte{0xa0 | byte(len(text))})+text, 1, list(api.Word(text)), api.OK)
	}
	for _, n := range []int{0, 1, 31, 32, 199, 200} {
		text := strings.Repeat("x", n)
		for k, zeros := range []string{"", "\x00", "\x00\x00\x00"} {
			s := zeros + string([]byte{byte(n)}) + text
			comes(t, string([]byte{byte(0xd9 + k)})+s, 1, list(api.Word(text)), api.OK)
			comes(t, string([]byte{byte(0xc4 + k)})+s, 1, list(api.Blob(text)), api.OK)
		}
	}
	// Bytes are whatever they are.
	comes(t, "\xc4\x05\xff\x00\xc3\xc1\xc0", 1, list(api.Blob("\xff\x00\xc3\xc1\xc0")), api.OK)
	comes(t, "\xa5\x1c\x60\x00\x01\x40", 1, list(api.Word("\x1c\x60\x00\x01\x40")), api.OK)
}

func TestP1501Containers(t *testing.T) {
	comes(t, "\x92\x01\xc0", 1, list(arrOf(2), one, nil, end), api.OK)
	comes(t, "\x90", 1, list(arrOf(0), end), api.OK)
	comes(t, "\x80", 1, list(dictOf(0), end), api.OK)
	for n := 1; n < 16; n++ {
		comes(t, string([]byte{byte(0x90 + n)})+strings.Repeat("\x01", n), 1, append(append(list(arrOf(n)), many(one, n)...), end), api.OK)
		var pairs []any
		for range n {
			pairs = append(pairs, wordA, nil)
		}
		comes(t, string([]byte{byte(0x80 + n)})+strings.Repeat("\xa1a\xc0", n), 1, append(append(list(dictOf(n)), pairs...), end), api.OK)
	}
	for k, zeros := range []string{"\x00", "\x00\x00\x00"} {
		a, m := string([]byte{byte(0xdc + k)})+zeros, string([]byte{byte(0xde + k)})+zeros
		comes(t, a+"\x00", 1, list(arrOf(0), end), api.OK)
		comes(t, a+"\x01\x02", 1, list(arrOf(1), two, end), api.OK)
		comes(t, a+"\x10"+strings.Repeat("\xc0", 16), 1, append(append(list(arrOf(16)), many(nil, 16)...), end), api.OK)
		comes(t, m+"\x00", 1, list(dictOf(0), end), api.OK)
		comes(t, m+"\x01\xa1a\x02", 1, list(dictOf(1), wordA, two, end), api.OK)
		comes(t, m+"\x01\xd9\x01a\xc0", 1, list(dictOf(1), wordA, nil, end), api.OK)
	}
	comes(t, "\x82\xa1a\x01\xa1a\xa1b", 1, list(dictOf(2), wordA, one, wordA, wordB, end), api.OK)
	comes(t, "\x91\x91\x91\x01", 3, list(arrOf(1), arrOf(1), arrOf(1), one, end, end, end), api.OK)
	comes(t, "\x81\xa1a\x91\x90", 3, list(dictOf(1), wordA, arrOf(1), arrOf(0), end, end, end), api.OK)
	comes(t, "\x81\xa1a\x81\xa1b\x80", 3, list(dictOf(1), wordA, dictOf(1), wordB, dictOf(0), end, end, end), api.OK)
	comes(t, "\x92\x92\x00\x01\x92\x02\x90", 3, list(arrOf(2), arrOf(2), zero, one, end, arrOf(2), two, arrOf(0), end, end, end), api.OK)
}

// TestP1501Keys holds that each form of a text may be a key, and is one.
func TestP1501Keys(t *testing.T) {
	for _, form := range []string{"\xa1", "\xd9\x01", "\xda\x00\x01", "\xdb\x00\x00\x00\x01"} {
		comes(t, "\x82"+form+"a\x01"+form+"b\x80", 2, list(dictOf(2), wordA, one, wordB, dictOf(0), end, end), api.OK)
	}
	for _, empty := range []string{"\xa0", "\xd9\x00", "\xda\x00\x00", "\xdb\x00\x00\x00\x00"} {
		comes(t, "\x81"+empty+empty, 1, list(dictOf(1), api.Word(""), api.Word(""), end), api.OK)
	}
	tells(t, "\x81\xd9", 201, nil, api.ErrLarge)
	tells(t, "\x81\xa1", 0xff, nil, api.ErrUtf)
}

// TestP1501WhenItIsTold holds which byte tells how many parts.
func TestP1501WhenItIsTold(t *testing.T) {
	for s, told := range map[string][]int{
		"\x92\x01\xc0": {1, 1, 2}, "\xcc\x64": {0, 1}, "\xcf\x00\x00\x00\x00\x00\x00\x00\x05": {0, 0, 0, 0, 0, 0, 0, 0, 1}, "\xd1\x00\x01": {0, 0, 1},
		"\xa2hi": {0, 0, 1}, "\xa0": {1}, "\xc4\x00": {0, 1}, "\xd9\x00": {0, 1}, "\xd9\x01a": {0, 0, 1}, "\xc6\x00\x00\x00\x00": {0, 0, 0, 0, 1},
		"\x80": {2}, "\x90": {2}, "\xdc\x00\x00": {0, 0, 2}, "\xdd\x00\x00\x00\x01\x90": {0, 0, 0, 0, 1, 3}, "\x91\x91\x91\xc0": {1, 1, 1, 4},
		"\x81\xa1a\xa2hi": {1, 0, 1, 0, 0, 2}, "\x81\xa0\xd9\x00": {1, 1, 0, 2}, "\x91\x81\xa0\xcd\x00\x05": {1, 1, 1, 0, 0, 3},
	} {
		p := packin.New(4)
		for k := range len(s) {
			if got, e := p.Step(s[k]); len(got) != told[k] || e != api.OK {
				t.Errorf("%x: byte %d tells %v, %d", s, k, got, e)
			}
		}
		if !p.Done() || p.End() != api.OK {
			t.Errorf("%x: done %v, its End %d", s, p.Done(), p.End())
		}
	}
}

// first asks what each first byte tells behind some bytes.
func first(t *testing.T, ahead string, depth int, want func(b int) api.Errno) {
	t.Helper()
	for b := range 256 {
		p := through(t, ahead, depth)
		got, e := p.Step(byte(b))
		if e != want(b) {
			t.Errorf("%x behind %x, depth %d: tells %d, not %d", b, ahead, depth, e, want(b))
		}
		if e != api.OK && len(got) != 0 {
			t.Errorf("%x behind %x: an error, and %v", b, ahead, got)
		}
		if e != api.OK {
			stays(t, p, e)
		}
		agrees(t, ahead+string([]byte{byte(b)}), depth)
	}
}

// ofValue tells what is to be told of a first byte where a value is wanted.
func ofValue(b int, full bool) api.Errno {
	switch {
	case b == 0xc1:
		return api.ErrForm
	case b >= 0xc7 && b <= 0xc9, b >= 0xd4 && b <= 0xd8:
		return api.ErrKind
	case b == 0xca, b == 0xcb:
		return api.ErrFloat
	case full && (b >= 0x80 && b <= 0x9f || b >= 0xdc && b <= 0xdf):
		return api.ErrDeep
	}
	return api.OK
}

func TestP1501FirstByteOfAValue(t *testing.T) {
	for _, ahead := range []string{"", "\x91", "\x92\x00", "\x93\x90", "\x81\xa0", "\x82\xa0\x00\xa0", "\x91\x81\xa1a", "\xdc\x00\x01", "\xdf\x00\x00\x00\x01\xd9\x01a"} {
		first(t, ahead, 4, func(b int) api.Errno { return ofValue(b, false) })
	}
}

// TestP1501FirstByteOfAKey holds that what is no text is none of what else it
// is: but C1 is no form anywhere.
func TestP1501FirstByteOfAKey(t *testing.T) {
	for _, ahead := range []string{"\x81", "\x82\xa0\x00", "\x82\xa1a\x90", "\x82\xa0\x81\xa0\x00", "\xde\x00\x01", "\xdf\x00\x00\x00\x02\xd9\x00\xc0", "\x91\x81", "\x81\xa0\x81"} {
		for _, depth := range []int{2, 3} {
			first(t, ahead, depth, func(b int) api.Errno {
				switch {
				case b == 0xc1:
					return api.ErrForm
				case b >= 0xa0 && b <= 0xbf, b >= 0xd9 && b <= 0xdb:
					return api.OK
				}
				return api.ErrKind
			})
		}
	}
	for b := range 256 {
		want := api.ErrKind
		if b == 0xc1 {
			want = api.ErrForm
		} else if b >= 0xa0 && b <= 0xbf || b >= 0xd9 && b <= 0xdb {
			continue
		}
		comes(t, "\x81"+string([]byte{byte(b)}), 1, list(dictOf(1)), want)
	}
}

func TestP1501FirstByteBehindAll(t *testing.T) {
	for _, ahead := range []string{"\x00", "\xff", "\xcc\x64", "\xd0\x64", "\xc0", "\xa0", "\xa2hi", "\xd9\x00", "\xc4\x00", "\xc4\x01a", "\x80", "\x90", "\xdc\x00\x00", "\x91\x91\x00", "\x81\xa1a\x90"} {
		first(t, ahead, 2, func(int) api.Errno { return api.ErrForm })
	}
}

// TestP1501FirstByteFullDepth holds that no more may be in one another.
func TestP1501FirstByteFullDepth(t *testing.T) {
	for _, ahead := range []string{"\x91", "\x81\xa0", "\x93\x00\xa0", "\xdc\x00\x05", "\xde\x00\x01\xa1a"} {
		first(t, ahead, 1, func(b int) api.Errno { return ofValue(b, true) })
	}
	for _, ahead := range []string{"\x91\x91", "\x92\x90\x91", "\x81\xa0\x91", "\x92\x81\xa0\x00\x81\xa0", "\x92\xde\x00\x00\x81\xa0"} {
		first(t, ahead, 2, func(b int) api.Errno { return ofValue(b, true) })
	}
}

func TestP1501Deep(t *testing.T) {
	for depth := 1; depth <= 16; depth++ {
		for _, kind := range []struct {
			begin string
			parts []any
		}{
			{"\x91", list(arrOf(1))}, {"\xdc\x00\x01", list(arrOf(1))}, {"\xdd\x00\x00\x00\x01", list(arrOf(1))},
			{"\x81\xa1a", list(dictOf(1), wordA)}, {"\xde\x00\x01\xa1a", list(dictOf(1), wordA)}, {"\xdf\x00\x00\x00\x01\xa1a", list(dictOf(1), wordA)},
		} {
			var parts []any
			for range depth {
				parts = append(parts, kind.parts...)
			}
			ahead := strings.Repeat(kind.begin, depth)
			comes(t, ahead+"\x01", depth, append(append(parts[:len(parts):len(parts)], one), many(end, depth)...), api.OK)
			for _, more := range []string{"\x80", "\x81", "\x8f", "\x90", "\x91", "\x9f", "\xdc", "\xdd", "\xde", "\xdf"} {
				comes(t, ahead+more, depth, parts, api.ErrDeep)
			}
		}
	}
	comes(t, "\x94\x90\xdc\x00\x00\x80\x91\x91", 2, list(arrOf(4), arrOf(0), end, arrOf(0), end, dictOf(0), end, arrOf(1)), api.ErrDeep)
}

// TestP1501Large holds which byte tells it: the last one of the length.
func TestP1501Large(t *testing.T) {
	for _, ahead := range []string{"", "\x91", "\x92\x00", "\x81\xa0"} {
		for _, one := range []byte{0xc4, 0xd9} {
			of := func(b byte) string { return ahead + string([]byte{one + b}) }
			tells(t, of(0), 200, nil, api.OK)
			tells(t, of(0), 201, nil, api.ErrLarge)
			tells(t, of(0), 255, nil, api.ErrLarge)
			tells(t, of(1)+"\x00", 200, nil, api.OK)
			tells(t, of(1)+"\x00", 201, nil, api.ErrLarge)
			tells(t, of(1), 1, nil, api.OK)
			tells(t, of(1), 255, nil, api.OK)
			tells(t, of(1)+"\x01", 0, nil, api.ErrLarge)
			tells(t, of(1)+"\xff", 255, nil, api.ErrLarge)
			tells(t, of(2)+"\x00\x00\x00", 200, nil, api.OK)
			tells(t, of(2)+"\x00\x00\x00", 201, nil, api.ErrLarge)
			tells(t, of(2)+"\x00\x00", 1, nil, api.OK)
			tells(t, of(2), 255, nil, api.OK)
			tells(t, of(2)+"\x00\x01\x00", 0, nil, api.ErrLarge)
			tells(t, of(2)+"\x01\x00\x00", 5, nil, api.ErrLarge)
			tells(t, of(2)+"\xff\xff\xff", 255, nil, api.ErrLarge)
		}
	}
	// What was ahead does not count: each text has room of its own.
	long := strings.Repeat("x", 200)
	comes(t, "\x93\xd9\xc8"+long+"\xd9\xc8"+long+"\xc4\xc8"+long, 1, list(arrOf(3), api.Word(long), api.Word(long), api.Blob(long), end), api.OK)
}

// TestP1501Utf holds which byte tells it: the first that may not follow, or the
// last one.
func TestP1501Utf(t *testing.T) {
	for ahead, bad := range map[string]string{
		"\xa1": "\x80\xc1\xc3\xff\xed\xf0\xf5", "\xa2": "\x80\xc0\xff\xf8", "\xa2\xc3": "a\x7f\xc0\xff", "\xa2a": "\xc3\xff\x80", "\xa3\xe2\x82": "a\xe2", "\xa3\xed": "\xa0\xbf", "\xa3\xe0": "\x80\x9f",
		"\xa4\xf0": "\x80\x8f", "\xa4\xf4": "\x90", "\xa2\xe2": "\x82", "\xa3\xf0\x9f": "\x98", "\xd9\x18abc": "\xff\xbf", "\xa3\xc3\xa9": "\xc3",
		"\xd9\x01": "\xc3\xff", "\xda\x00\x02\xe2": "\x82", "\xdb\x00\x00\x00\x02\xc3": "a\xc3",
		"\x91\xa1": "\xc3", "\x81\xa1": "\xff", "\x82\xa0\x00\xa2\xc3": "\xc3", "\x81\xa0\xd9\x01": "\xc3",
	} {
		for _, b := range []byte(bad) {
			tells(t, ahead, b, nil, api.ErrUtf)
		}
	}
	comes(t, "\x92\xa0\xa1\xc3", 1, list(arrOf(2), api.Word("")), api.ErrUtf)
	// What was ahead does not count: each text is asked by itself.
	comes(t, "\x92\xa2\xc3\xa9\xa2\xc3\xa9", 1, list(arrOf(2), api.Word("é"), api.Word("é"), end), api.OK)
	comes(t, "\x92\xc4\x01\xc3\xa1a", 1, list(arrOf(2), api.Blob("\xc3"), wordA, end), api.OK)
}

// TestP1501Range holds which byte tells it: the last one of the count.
func TestP1501Range(t *testing.T) {
	for _, ahead := range []string{"", "\x91", "\x92\x00", "\x81\xa0"} {
		for _, isMap := range []bool{false, true} {
			begin, two, four := arrOf(1_000_000), ahead+"\xdc", ahead+"\xdd"
			if isMap {
				begin, two, four = dictOf(1_000_000), ahead+"\xde", ahead+"\xdf"
			}
			tells(t, four+"\x00\x0f\x42", 0x40, list(begin), api.OK)
			tells(t, four+"\x00\x0f\x42", 0x41, nil, api.ErrRange)
			tells(t, four+"\x00\x0f\x43", 0x00, nil, api.ErrRange)
			tells(t, four+"\x00\x0f", 0xff, nil, api.OK)
			tells(t, four, 0xff, nil, api.OK)
			for _, high := range []string{"\x00\x10\x00", "\x01\x00\x00", "\x7f\xff\xff", "\x80\x00\x00", "\xff\xff\xff"} {
				for _, last := range []byte{0, 1, 0xff} {
					tells(t, four+high, last, nil, api.ErrRange)
				}
			}
			begin.Count = 65_535
			tells(t, two+"\xff", 0xff, list(begin), api.OK)
			begin.Count = 1
			tells(t, four+"\x00\x00\x00", 1, list(begin), api.OK)
		}
	}
	// How deep it is counts first.
	p := through(t, "\x91", 1)
	if parts, e := p.Step(0xdd); len(parts) != 0 || e != api.ErrDeep {
		t.Errorf("a count in one too deep: %v, %d", parts, e)
	}
}

// TestP1501MostItems holds that as many items as may be come to an end.
func TestP1501MostItems(t *testing.T) {
	for begin, item := range map[string]string{"\xdd\x00\x0f\x42\x40": "\xc0", "\xdf\x00\x0f\x42\x40": "\xa0\xc0"} {
		p := through(t, begin+strings.Repeat(item, 999_999)+item[:len(item)-1], 1)
		if p.Done() || p.Held() != 1 {
			t.Errorf("%x: ahead of its last byte it is done, or holds %d", begin, p.Held())
		}
		if parts, e := p.Step(0xc0); !same(parts, list(nil, end)) || e != api.OK || !p.Done() {
			t.Errorf("%x: its last byte tells %v, %d", begin, parts, e)
		}
	}
}

// TestP1501NewEachTime holds that what is told shares nothing with what is
// told later.
func TestP1501NewEachTime(t *testing.T) {
	p := through(t, "\x93\x91", 4)
	first, _ := p.Step(1)
	kept := append([]any(nil), first...)
	p.Step(0x91)
	later, _ := p.Step(2)
	if !same(first, kept) || !same(first, list(one, end)) || !same(later, list(two, end)) {
		t.Errorf("tells %v, then %v", first, later)
	}
	for k := range first {
		first[k] = wordB
	}
	if !same(later, list(two, end)) {
		t.Errorf("what was told later is %v", later)
	}
	// A word stays, whatever bytes come behind it.
	q := through(t, "\x92\xa2h", 4)
	word, _ := q.Step('i')
	q.Step(0xa2)
	q.Step('x')
	q.Step('y')
	if !same(word, list(api.Word("hi"))) {
		t.Errorf("the word is %v", word)
	}
}

func TestP1501End(t *testing.T) {
	for _, s := range []string{"\x00", "\xff", "\xcc\x64", "\xd3\x00\x00\x00\x00\x00\x00\x00\x00", "\xc0", "\xa0", "\xa2hi", "\xc5\x00\x01a", "\x80", "\x81\xa1a\x90", "\xdd\x00\x00\x00\x01\x05"} {
		for k := range len(s) {
			p := through(t, s[:k], 4)
			if p.End() != api.ErrMore || p.End() != api.ErrMore {
				t.Errorf("End behind %x is %d", s[:k], p.End())
			}
		}
		p := through(t, s, 4)
		if p.End() != api.OK || p.End() != api.OK || !p.Done() || p.Held() != 0 {
			t.Errorf("End behind %x is %d, done %v", s, p.End(), p.Done())
		}
		if parts, e := p.Step(0xc0); len(parts) != 0 || e != api.ErrForm {
			t.Errorf("a second document behind %x: %v, %d", s, parts, e)
		}
		stays(t, p, api.ErrForm)
	}
}

// TestP1501EndOnlyAsks holds that an End that lacks bytes is no error that
// stays.
func TestP1501EndOnlyAsks(t *testing.T) {
	p := packin.New(4)
	var all []any
	for _, b := range []byte("\x81\xd9\x02ab\xdc\x00\x01\xd1\xff\x00") {
		if e := p.End(); e != api.ErrMore {
			t.Errorf("End is %d", e)
		}
		parts, e := p.Step(b)
		if e != api.OK {
			t.Errorf("Step(%x) is %d", b, e)
		}
		all = append(all, parts...)
	}
	if !same(all, list(dictOf(1), api.Word("ab"), arrOf(1), api.Whole{Neg: true, Mag: 255}, end, end)) || p.End() != api.OK {
		t.Errorf("%v, %d", all, p.End())
	}
}

func TestP1501EndTellsTheError(t *testing.T) {
	for s, want := range map[string]api.Errno{
		"\xc1": api.ErrForm, "\x00\x00": api.ErrForm, "\xc7": api.ErrKind, "\xd4": api.ErrKind, "\x81\x00": api.ErrKind, "\xca": api.ErrFloat,
		"\x91\x91\x91": api.ErrDeep, "\xd9\xc9": api.ErrLarge, "\xa1\xff": api.ErrUtf, "\xdd\xff\xff\xff\xff": api.ErrRange,
	} {
		p := through(t, s[:len(s)-1], 2)
		if parts, e := p.Step(s[len(s)-1]); len(parts) != 0 || e != want {
			t.Errorf("%x: %v, %d", s, parts, e)
		}
		stays(t, p, want)
	}
}

// watch asks what is held, and whether it is done, behind each byte.
func watch(t *testing.T, s string, held []int, done string) {
	t.Helper()
	p := packin.New(4)
	for k := range len(s) {
		p.Step(s[k])
		if p.Held() != held[k] || p.Done() != (done[k] == 'y') {
			t.Errorf("%x: holds %d, done %v", s[:k+1], p.Held(), p.Done())
		}
	}
}

func TestP1501HeldAndDone(t *testing.T) {
	watch(t, "\x92\x05\xa2ab", []int{1, 1, 1, 2, 0}, "nnnny")
	watch(t, "\x91\x91\x91\x91\x00", []int{1, 2, 3, 4, 0}, "nnnny")
	watch(t, "\x92\x91\x90\x80", []int{1, 2, 1, 0}, "nnny")
	watch(t, "\x90", []int{0}, "y")
	watch(t, "\xdd\x00\x00\x00\x01\x00", []int{0, 0, 0, 0, 1, 0}, "nnnnny")
	watch(t, "\xd9\x03abc", []int{0, 0, 1, 2, 0}, "nnnny")
	watch(t, "\xa4\xf0\x9f\x98\x80", []int{0, 1, 2, 3, 0}, "nnnny")
	watch(t, "\x81\xa2ab\xc4\x02bc", []int{1, 1, 2, 1, 1, 1, 2, 0}, "nnnnnnny")
	watch(t, "\x91\x91\x91\x91\x91", []int{1, 2, 3, 4, 0}, "nnnnn")
	watch(t, "\x91\xa3ab\xff", []int{1, 1, 2, 3, 0}, "nnnnn")
	watch(t, "\x90\x00\x00", []int{0, 0, 0}, "ynn")
	watch(t, "\xcd\x01\x00", []int{0, 0, 0}, "nny")
}

func TestP1501All(t *testing.T) {
	shut := api.Ev{Kind: api.End}
	for s, want := range map[string][]api.Ev{
		"\x92\x01\xc0":           {{Kind: api.Array, Count: 2}, {Kind: api.Int, Mag: 1}, {Kind: api.Null}, shut},
		"\x82\xa1a\xc3\xa1b\xfe": {{Kind: api.Map, Count: 2}, {Kind: api.Text, Text: "a"}, {Kind: api.Bool, Yes: true}, {Kind: api.Text, Text: "b"}, {Kind: api.Int, Yes: true, Mag: 1}, shut},
		"\x80":                   {{Kind: api.Map}, shut},
		"\xc4\x02hi":             {{Kind: api.Bytes, Text: "hi"}},
		"\xc2":                   {{Kind: api.Bool}},
	} {
		got, e := packin.All(s, 1)
		if !reflect.DeepEqual(got, want) || e != api.OK || event.Check(got...) != api.OK {
			t.Errorf("All(%x) = %v, %d", s, got, e)
		}
	}
}

// TestP1501AllWithAnError holds the parts that All tells beside the first one.
func TestP1501AllWithAnError(t *testing.T) {
	comes(t, "", 4, nil, api.ErrMore)
	comes(t, "\x92\x01", 4, list(arrOf(2), one), api.ErrMore)
	comes(t, "\x92\x01\xa2h", 4, list(arrOf(2), one), api.ErrMore)
	comes(t, "\x81\xa1a", 4, list(dictOf(1), wordA), api.ErrMore)
	comes(t, "\xcd\x01", 4, nil, api.ErrMore)
	comes(t, "\xda\xff", 4, nil, api.ErrMore)
	comes(t, "\x92\x01\xca\xff\xc1", 4, list(arrOf(2), one), api.ErrFloat)
	comes(t, "\x92\x01\xc7\x01", 4, list(arrOf(2), one), api.ErrKind)
	comes(t, "\x01\x02\xc7", 4, list(one), api.ErrForm)
	comes(t, "\x91\x90\x90", 4, list(arrOf(1), arrOf(0), end, end), api.ErrForm)
	comes(t, "\x91\xa1\xff", 4, list(arrOf(1)), api.ErrUtf)
	comes(t, "\x91\xd9\xff", 4, list(arrOf(1)), api.ErrLarge)
	comes(t, "\x91\xdd\x00\x0f\x42\x41", 4, list(arrOf(1)), api.ErrRange)
	comes(t, "\x91\x91\x91\x91\x91", 4, many(arrOf(1), 4), api.ErrDeep)
}

func TestP1501AllOfADepthThatMayNotBe(t *testing.T) {
	for _, depth := range []int{math.MinInt, -1, 0, 17, math.MaxInt} {
		for _, s := range []string{"", "\x80", "\x00", "\xc1", "\xa1"} {
			if got, e := packin.All(s, depth); len(got) != 0 || e != api.ErrArg {
				t.Errorf("All(%x, %d) = %v, %d", s, depth, got, e)
			}
		}
	}
}

// TestP1501None holds that a zero one, as a nil one, is not ready.
func TestP1501None(t *testing.T) {
	for _, p := range []*packin.Parser{nil, {}, packin.New(0), packin.New(17)} {
		stays(t, p, api.ErrState)
	}
}

// TestP1501LongWay grows documents, and hurts them.
func TestP1501LongWay(t *testing.T) {
	draw, good := draws(), 0
	for range 6_000 {
		g := growing{draw: draw}
		depth := 1 + draw(16)
		g.value(min(depth, 4))
		s := g.bytes
		if len(s) > 250 {
			continue
		}
		comes(t, s, depth, g.parts, api.OK)
		if plain, e := packin.All(s, depth); event.Check(plain...) != api.OK {
			t.Errorf("All(%x) = %v, %d", s, plain, e)
		}
		place, more := draw(len(s)), string([]byte{byte(draw(256))})
		if draw(2) == 0 {
			more = []string{"\xff", "\x80", "\x90", "\xa0", "\xa1", "\xd9", "\x81", "\xdc", "\x91", "\x00", "\xc0"}[draw(11)]
		}
		for _, hurt := range []string{s[:place] + more + s[place:], s[:place] + more + s[place+1:], s[:place] + s[place+1:], s[:place], s[place:]} {
			if _, e := agrees(t, hurt, depth); e == api.OK {
				good++
			}
		}
		agrees(t, s, 1+draw(5))
	}
	if good < 100 {
		t.Errorf("only %d are documents still", good)
	}
}

// live tells whether bytes have no error yet, and more may come.
func live(s string, depth int) bool {
	p := packin.New(depth)
	for k := range len(s) {
		if _, e := p.Step(s[k]); e != api.OK {
			return false
		}
	}
	return !p.Done()
}

// ways asks all ways of some bytes, but what is behind an error or behind the
// document's end, of the model.
func ways(t *testing.T, bytes string, most, depth, least int) {
	t.Helper()
	ahead, good := []string{""}, 0
	for range most {
		var next []string
		for _, s := range ahead {
			for k := range len(bytes) {
				more := s + bytes[k:k+1]
				if _, e := agrees(t, more, depth); e == api.OK {
					good++
				}
				if live(more, depth) {
					next = append(next, more)
				}
			}
		}
		ahead = next
	}
	if good < least {
		t.Errorf("only %d of %x are documents", good, bytes)
	}
}

// TestP1501AllWays asks all ways of a few bytes.
func TestP1501AllWays(t *testing.T) {
	ways(t, "\x00\xa0\x81\x82\x90\x91\x92\xc0", 6, 2, 100)
	ways(t, "\x01\xcc\xc4\xa1\xd9\x91\x81\xff", 6, 3, 100)
	ways(t, "\x01\xa2\xd9\x82\xc3\xa9\xe2\x91", 6, 1, 20)
	ways(t, "\x00\x01\x02\xc5\xda\xdc\x92\xde\xd1", 5, 2, 100)
	ways(t, "\x80\x90\x91\x81\xa0\xc1\xc7\xca\xcb\xd4\xd8\xdf\xdd", 5, 1, 5)
}

// TestP1501AllBytes asks all ways of two bytes, with some ahead.
func TestP1501AllBytes(t *testing.T) {
	for _, ahead := range []string{"", "\x91", "\x81", "\x81\xa0", "\xd9", "\xd1", "\xdc\x00", "\xdd\x00\x0f"} {
		for a := range 256 {
			for b := range 256 {
				agrees(t, ahead+string([]byte{byte(a), byte(b)}), 1)
			}
		}
	}
}
