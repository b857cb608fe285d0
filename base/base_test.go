package base_test

import (
	"encoding/base64"
	"fmt"
	"math"
	"slices"
	"strconv"
	"strings"
	"testing"
	"unicode/utf8"

	"truchman/base"
)

// signs are the signs of 0 to 63, a block of RFC 4648's table a line.
const signs = "ABCDEFGHIJKLMNOPQ" +
	"RSTUVWXYZabcdefgh" +
	"ijklmnopqrstuvwxy" +
	"z0123456789-_"

// put is a model of Put: all bits as a text, 0 behind them, cut into sixes.
func put(b string) string {
	bits, all := "", ""
	for k := range len(b) {
		bits += fmt.Sprintf("%08b", b[k])
	}
	for len(bits)%6 != 0 {
		bits += "0"
	}
	for six := range slices.Chunk([]byte(bits), 6) {
		k, _ := strconv.ParseUint(string(six), 2, 6)
		all += signs[k : k+1]
	}
	return all
}

// get is a model of Get: what all whole eights of the bits say, if its put is
// what it was got from.
func get(s string) (string, bool) {
	bits, all := "", ""
	for k := range len(s) {
		at := strings.IndexByte(signs, s[k])
		if at < 0 {
			return "", false
		}
		bits += fmt.Sprintf("%06b", at)
	}
	for ; len(bits) >= 8; bits = bits[8:] {
		k, _ := strconv.ParseUint(bits[:8], 2, 8)
		all += string([]byte{byte(k)})
	}
	if put(all) != s {
		return "", false
	}
	return all, true
}

// puts asks what bytes are put as, and that they are got back from it.
func puts(t *testing.T, b, want string) {
	t.Helper()
	if got := base.Put(b); got != want {
		t.Errorf("Put(%q) = %q, not %q", b, got, want)
	}
	gets(t, want, b, true)
	if base.Len(len(b)) != len(want) {
		t.Errorf("Len(%d) = %d, not %d", len(b), base.Len(len(b)), len(want))
	}
}

// gets asks what is got.
func gets(t *testing.T, s, want string, is bool) {
	t.Helper()
	if got, gotIs := base.Get(s); got != want || gotIs != is {
		t.Errorf("Get(%q) = %q, %v; not %q, %v", s, got, gotIs, want, is)
	}
}

// refuses asks that nothing is got.
func refuses(t *testing.T, s string) {
	t.Helper()
	gets(t, s, "", false)
}

// agrees asks what is got of signs, and whether it is put as they were.
func agrees(t *testing.T, s string) {
	t.Helper()
	want, is := get(s)
	gets(t, s, want, is)
	if is && base.Put(want) != s {
		t.Errorf("Put(%q) = %q, not %q", want, base.Put(want), s)
	}
}

// draws tells a function that draws numbers from 0 on, below n.
func draws() func(n int) int {
	seed := uint32(8)
	return func(n int) int {
		seed = seed*1_664_525 + 1_013_904_223
		return int(seed>>8) % n
	}
}

// drawn tells so many bytes that were drawn.
func drawn(draw func(n int) int, size int) string {
	b := make([]byte, size)
	for k := range b {
		b[k] = byte(draw(256))
	}
	return string(b)
}

func TestP801Put(t *testing.T) {
	for b, want := range map[string]string{
		"": "", "f": "Zg", "fo": "Zm8", "foo": "Zm9v", "foob": "Zm9vYg", "fooba": "Zm9vYmE", "foobar": "Zm9vYmFy", "hi": "aGk",
		"\x00": "AA", "\x00\x00": "AAA", "\x00\x00\x00": "AAAA", "\x00\x00\x00\x00": "AAAAAA", "\x01": "AQ", "\x80": "gA", "\xff": "_w", "\xff\xff": "__8", "\xff\xff\xff": "____", "\xff\xff\xff\xff": "_____w",
		"\xfb\xef\xbe": "----", "\xfb": "-w", "\xf8": "-A", "\xfc": "_A", "\x00\x0f": "AA8", "\x00\x01": "AAE", "\x00\x00\x3e": "AAA-", "\x00\x00\x3f": "AAA_", "\x00\x10\x83": "ABCD", "\x69\xb7\x1d": "abcd", "\xd3\x5d\xb7": "0123",
		"é": "w6k", "€": "4oKs", "😀": "8J-YgA", "\xc3": "ww", "\xef\xbf\xbd": "77-9", "\n": "Cg", "=": "PQ",
	} {
		puts(t, b, want)
	}
}

// TestP801EachSignInEachPlace puts and gets each sign at each place of its
// four, with lowest and with highest bits around it.
func TestP801EachSignInEachPlace(t *testing.T) {
	for v := range uint32(64) {
		for place := range 4 {
			for _, around := range []uint32{0, 0xffffff, 0x555555} {
				shift := 18 - 6*place
				three := around&^(63<<shift) | v<<shift
				b := string([]byte{byte(three >> 16), byte(three >> 8), byte(three)})
				if got := base.Put(b); len(got) != 4 || got[place] != signs[v] {
					t.Errorf("Put(%q) = %q: sign %d is not %c", b, got, place, signs[v])
				}
				puts(t, b, put(b))
			}
		}
	}
}

// TestP801BytesThatAreLeft puts each byte that is left alone, and all ways of
// two, behind none and behind three.
func TestP801BytesThatAreLeft(t *testing.T) {
	for a := range 256 {
		one := string([]byte{byte(a)})
		puts(t, one, put(one))
		puts(t, "abc"+one, "YWJj"+put(one))
		for b := range 256 {
			two := one + string([]byte{byte(b)})
			puts(t, two, put(two))
			puts(t, "\xff\xff\xff"+two, "____"+put(two))
		}
	}
}

// TestP801EachSize puts bytes of each size, alike and drawn ones.
func TestP801EachSize(t *testing.T) {
	draw := draws()
	for size := range 400 {
		for _, b := range []string{strings.Repeat("\x00", size), strings.Repeat("\xff", size), strings.Repeat("a", size), drawn(draw, size)} {
			puts(t, b, put(b))
			puts(t, b, base64.RawURLEncoding.EncodeToString([]byte(b)))
		}
	}
}

// TestP801ManyBytes holds that Put and Get have no bound where Len has one.
func TestP801ManyBytes(t *testing.T) {
	draw := draws()
	for _, size := range []int{65_535, 65_536, 999_998, 999_999, 1_000_000, 1_000_001, 1_000_002, 3_000_000} {
		b := drawn(draw, size)
		want := base64.RawURLEncoding.EncodeToString([]byte(b))
		if base.Put(b) != want {
			t.Errorf("%d bytes are not put as they are", size)
		}
		if got, is := base.Get(want); got != b || !is {
			t.Errorf("%d bytes are not got back: %v", size, is)
		}
	}
}

// TestP801GetEachTwoAndThree gets all ways of one, two and three signs: of
// those that are no three, missing bits that are not 0 are told.
func TestP801GetEachTwoAndThree(t *testing.T) {
	many := 0
	for a := range 64 {
		one := signs[a : a+1]
		refuses(t, one)
		for b := range 64 {
			two := one + signs[b:b+1]
			if b%16 == 0 {
				gets(t, two, string([]byte{byte(a<<2 | b>>4)}), true)
				many++
			} else {
				refuses(t, two)
			}
			for c := range 64 {
				three := two + signs[c:c+1]
				if c%4 == 0 {
					gets(t, three, string([]byte{byte(a<<2 | b>>4), byte(b<<4 | c>>2)}), true)
					many++
				} else {
					refuses(t, three)
				}
			}
		}
	}
	if many != 256+256*256 {
		t.Errorf("%d of two and three signs are a Put", many)
	}
}

// TestP801GetOneSignIsLeft holds that a sign behind whole fours is no Put, be
// its bits 0 or not.
func TestP801GetOneSignIsLeft(t *testing.T) {
	for _, ahead := range []string{"", "AAAA", "YWJj", "____", "YWJjZGVm", "AAAAAAAAAAAA"} {
		for v := range 64 {
			refuses(t, ahead+signs[v:v+1])
		}
	}
}

// TestP801GetMissingBits holds that the missing bits count behind whole fours
// too, and that no bits ahead of them make up for them.
func TestP801GetMissingBits(t *testing.T) {
	for _, ahead := range []string{"AAAA", "____", "YWJj", "AAAAAAAA"} {
		for v := range 64 {
			for _, first := range []string{"A", "_", "Y", "P"} {
				agrees(t, ahead+first+signs[v:v+1])
				agrees(t, ahead+first+"A"+signs[v:v+1])
				agrees(t, ahead+first+"_"+signs[v:v+1])
			}
		}
	}
	for _, s := range []string{"aGl", "aGm", "aGn", "YR", "Yf", "YQB", "__9", "_x", "AB", "AAB", "AP", "AAD"} {
		refuses(t, s)
	}
}

// TestP801GetEachByte puts each byte at each place of signs: it is got, if it
// is one of them.
func TestP801GetEachByte(t *testing.T) {
	for _, whole := range []string{"AA", "AAA", "AAAA", "YQ", "aGk", "YWJj", "YWJjYQ", "YWJjZGVm"} {
		for b := range 256 {
			for place := range len(whole) {
				s := []byte(whole)
				s[place] = byte(b)
				agrees(t, string(s))
				agrees(t, whole[:place]+string([]byte{byte(b)})+whole[place:])
			}
			agrees(t, whole+string([]byte{byte(b)}))
		}
	}
}

// TestP801GetOtherAlphabets holds that padding, blanks, line ends and the
// signs of other alphabets are none.
func TestP801GetOtherAlphabets(t *testing.T) {
	for _, s := range []string{
		"=", "==", "====", "YQ=", "YQ==", "YQ====", "aGk=", "aGk=aGk", "=aGk", "YWJj=", "YWJj====", "YQ==YWJj",
		"+/", "++++", "////", "AAA+", "AAA/", "+AAA", "/AAA", "_+8", "a.k", "a,k", "a~k", "YWJj.", "YWJj~",
		" aGk", "aGk ", "aG k", "YW Jj", "YWJj ", "\naGk", "aGk\n", "aG\nk", "YWJj\n", "YWJj\r\n", "YW\r\nJj", "\r", "\n", "\t", "aGk\x00", "\x00aGk", "\x00", "\v", "\f",
		"aGk\x7f", "YWJj\x80", "YWJj\xff", "\xff", "\xffYWJj", "YW\xc3Jj", "Y\xa9WJj", "\xc1\xa1Gk", `"aGk"`, "'aGk'", "%61Gk", `\u0061`, "@@@@", "[[[[", "````", "{{{{", "::::",
	} {
		refuses(t, s)
	}
}

// TestP801GetOtherRunes holds that no rune beyond a byte of ASCII is a sign,
// though its last bits may be one's.
func TestP801GetOtherRunes(t *testing.T) {
	for r := rune(0x80); r <= utf8.MaxRune; r++ {
		if !utf8.ValidRune(r) || r > 0x3000 && strings.IndexByte(signs, byte(r)) < 0 {
			continue
		}
		for _, s := range []string{string(r), string(r) + "Q", "Y" + string(r), "aG" + string(r), "YWJ" + string(r), "YWJj" + string(r), string(r) + string(r) + string(r) + string(r)} {
			if got, is := base.Get(s); got != "" || is {
				t.Fatalf("Get(%q) = %q, %v", s, got, is)
			}
		}
	}
}

// TestP801BesideTheModel gets all ways of five of some signs and others.
func TestP801BesideTheModel(t *testing.T) {
	all := []string{""}
	for range 5 {
		var next []string
		for _, s := range all {
			for _, b := range []byte("AQgw_-0z=\n\xff") {
				next = append(next, s+string([]byte{b}))
			}
		}
		for _, s := range next {
			agrees(t, s)
		}
		all = next
	}
}

// TestP801LongWay puts bytes that were drawn, and gets them back, and hurt.
func TestP801LongWay(t *testing.T) {
	draw := draws()
	for range 3_000 {
		b := drawn(draw, draw(60))
		s := put(b)
		puts(t, b, s)
		if s == "" {
			continue
		}
		hurt := []byte(s)
		hurt[draw(len(hurt))] = (signs + "=+/ \n\x00\x80\xff")[draw(72)]
		agrees(t, string(hurt))
		agrees(t, s[:draw(len(s))])
		agrees(t, s[draw(len(s)):])
		agrees(t, s+signs[draw(64):][:1])
	}
}

func TestP801Len(t *testing.T) {
	for n, want := range map[int]int{
		0: 0, 1: 2, 2: 3, 3: 4, 4: 6, 5: 7, 6: 8, 7: 10, 200: 267, 999_997: 1_333_330, 999_998: 1_333_331, 999_999: 1_333_332, 1_000_000: 1_333_334,
		1_000_001: 0, 1_000_002: 0, 2_000_000: 0, math.MaxInt32: 0, 1 << 32: 0, 1<<32 + 1: 0, math.MaxInt / 8: 0, math.MaxInt/8 + 1: 0, math.MaxInt - 1: 0, math.MaxInt: 0,
		-1: 0, -2: 0, -3: 0, -1_000_000: 0, math.MinInt32: 0, -1 << 32: 0, math.MinInt + 1: 0, math.MinInt: 0,
	} {
		if got := base.Len(n); got != want {
			t.Errorf("Len(%d) = %d, not %d", n, got, want)
		}
	}
}

// TestP801LenOfEach asks each number that Len counts, and some beyond each end.
func TestP801LenOfEach(t *testing.T) {
	for n := -1_000; n <= 1_001_000; n++ {
		want := 0
		if n >= 0 && n <= 1_000_000 {
			want = n/3*4 + []int{0, 2, 3}[n%3]
		}
		if got := base.Len(n); got != want {
			t.Fatalf("Len(%d) = %d, not %d", n, got, want)
		}
	}
}
