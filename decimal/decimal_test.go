package decimal_test

import (
	"math"
	"math/big"
	"regexp"
	"strings"
	"testing"
	"unicode"

	"truchman/api"
	"truchman/decimal"
)

const (
	zero  = "0"
	most  = "18446744073709551615"
	least = "-18446744073709551616"
)

var (
	begins   = regexp.MustCompile(`^-?(0|[1-9][0-9]*)?$`)
	anyDigit = regexp.MustCompile(`[0-9]`)
)

// model keeps the bytes that were taken, and the first error.
type model struct {
	taken string
	e     api.Errno
}

func (m *model) step(b byte) (bool, api.Errno) {
	next := m.taken + string([]byte{b})
	switch {
	case m.e != api.OK:
	case begins.MatchString(next):
		m.taken = next
		return true, api.OK
	case !anyDigit.MatchString(m.taken) || b >= '0' && b <= '9':
		m.e = api.ErrForm
	case strings.IndexByte(".eE", b) >= 0:
		m.e = api.ErrFloat
	}
	return false, m.e
}

func (m *model) end() (api.Whole, api.Errno) {
	switch {
	case m.e != api.OK:
		return api.Whole{}, m.e
	case !anyDigit.MatchString(m.taken):
		return api.Whole{}, api.ErrForm
	}
	return wholeOf(great(m.taken))
}

// great tells the number of digits, of whatever size.
func great(digits string) *big.Int {
	n, is := new(big.Int).SetString(digits, 10)
	if !is {
		panic(digits)
	}
	return n
}

// wholeOf tells the Whole that a number is; ErrRange, if it is none.
func wholeOf(n *big.Int) (api.Whole, api.Errno) {
	if n.Cmp(great(least)) < 0 || n.Cmp(great(most)) > 0 {
		return api.Whole{}, api.ErrRange
	}
	if n.Sign() >= 0 {
		return api.Whole{Mag: n.Uint64()}, api.OK
	}
	return api.Whole{Neg: true, Mag: new(big.Int).Not(n).Uint64()}, api.OK // Not: less 1 less it
}

// greatOf tells the number that a Whole is.
func greatOf(w api.Whole) *big.Int {
	n := new(big.Int).SetUint64(w.Mag)
	if w.Neg {
		return n.Not(n)
	}
	return n
}

// agrees steps through all bytes, and asks behind each what the model says.
func agrees(t *testing.T, s string) {
	t.Helper()
	var n decimal.Number
	var m model
	first := api.OK
	for k := range len(s) {
		is, e := n.Step(s[k])
		wantIs, wantE := m.step(s[k])
		if is != wantIs || e != wantE {
			t.Fatalf("%q: the last byte tells %v, %d; not %v, %d", s[:k+1], is, e, wantIs, wantE)
		}
		w, e := n.End()
		wantW, wantE := m.end()
		if w != wantW || e != wantE {
			t.Fatalf("%q: End tells %v, %d; not %v, %d", s[:k+1], w, e, wantW, wantE)
		}
		if first == api.OK && !wantIs {
			if first = m.e; first == api.OK {
				first = api.ErrForm
			}
		}
	}
	want, e := m.end()
	if first != api.OK {
		want, e = api.Whole{}, first
	}
	if w, got := decimal.Parse(s); w != want || got != e {
		t.Fatalf("Parse(%q) = %v, %d; not %v, %d", s, w, got, want, e)
	}
}

// through steps through bytes that are all taken, and tells the number.
func through(t *testing.T, s string) *decimal.Number {
	t.Helper()
	n := &decimal.Number{}
	for k := range len(s) {
		if is, e := n.Step(s[k]); !is || e != api.OK {
			t.Fatalf("%q: byte %d tells %v, %d", s, k, is, e)
		}
	}
	return n
}

// steps asks what a byte tells.
func steps(t *testing.T, what string, n *decimal.Number, b byte, is bool, e api.Errno) {
	t.Helper()
	if got, gotE := n.Step(b); got != is || gotE != e {
		t.Errorf("%s: Step(%#x) = %v, %d; not %v, %d", what, b, got, gotE, is, e)
	}
}

// ends asks what End tells.
func ends(t *testing.T, what string, n *decimal.Number, w api.Whole, e api.Errno) {
	t.Helper()
	if got, gotE := n.End(); got != w || gotE != e {
		t.Errorf("%s: End = %v, %d; not %v, %d", what, got, gotE, w, e)
	}
}

// edges are numbers at which something could turn, with others around them.
func edges() []*big.Int {
	var at []*big.Int
	word := new(big.Int).Lsh(big.NewInt(1), 64)
	for k := range int64(25) {
		at = append(at, new(big.Int).Mul(word, big.NewInt(k)))
	}
	for _, bits := range []uint{7, 8, 15, 16, 31, 32, 53, 62, 63, 65, 66, 67, 68, 127, 128, 129, 192} {
		at = append(at, new(big.Int).Lsh(big.NewInt(1), bits))
	}
	for ten := big.NewInt(10); len(ten.String()) < 80; ten = new(big.Int).Mul(ten, big.NewInt(10)) {
		at = append(at, ten)
	}
	var all []*big.Int
	for _, n := range at {
		for off := int64(-22); off <= 22; off++ {
			m := new(big.Int).Add(n, big.NewInt(off))
			all = append(all, m, new(big.Int).Neg(m))
		}
	}
	return all
}

// draws tells a function that draws numbers from 0 on, below n.
func draws() func(n int) int {
	seed := uint32(6)
	return func(n int) int {
		seed = seed*1_664_525 + 1_013_904_223
		return int(seed>>8) % n
	}
}

func TestP601ZeroHasSeenNothing(t *testing.T) {
	for range 2 {
		ends(t, "a zero one", new(decimal.Number), api.Whole{}, api.ErrForm)
	}
	var n decimal.Number
	steps(t, "a zero one", &n, '7', true, api.OK)
	ends(t, "7", &n, api.Whole{Mag: 7}, api.OK)
}

func TestP601Nil(t *testing.T) {
	var none *decimal.Number
	for b := range 256 {
		steps(t, "nil", none, byte(b), false, api.ErrState)
		ends(t, "nil", none, api.Whole{}, api.ErrState)
	}
}

// TestP601EachByteInEachPlace says of each place which bytes are taken, which
// are the end, and which tell ErrFloat: all others tell ErrForm.
func TestP601EachByteInEachPlace(t *testing.T) {
	digits := "0123456789"
	floats := ".eE"
	for _, place := range []struct {
		ahead, takes string
		ends         bool
	}{
		{"", "-" + digits, false}, {"-", digits, false},
		{"0", "", true}, {"-0", "", true},
		{"1", digits, true}, {"9", digits, true}, {"-5", digits, true}, {"10", digits, true}, {"-100", digits, true}, {"902", digits, true},
		{most, digits, true}, {least, digits, true}, {most + "0", digits, true}, {strings.Repeat("9", 300), digits, true},
	} {
		for k := range 256 {
			b, is, e := byte(k), false, api.ErrForm
			switch {
			case strings.IndexByte(place.takes, b) >= 0:
				is, e = true, api.OK
			case place.ends && strings.IndexByte(floats, b) >= 0:
				e = api.ErrFloat
			case place.ends && strings.IndexByte(digits, b) < 0:
				e = api.OK
			}
			steps(t, "behind "+place.ahead, through(t, place.ahead), b, is, e)
		}
	}
}

func TestP601NotTakenItStaysAsItWas(t *testing.T) {
	for _, s := range []string{"0", "-0", "7", "-7", "120", "-340", most, least} {
		want, _ := wholeOf(great(s))
		n := through(t, s)
		for b := range 256 {
			if strings.IndexByte("0123456789.eE", byte(b)) >= 0 {
				continue
			}
			for range 2 {
				steps(t, s, n, byte(b), false, api.OK)
				ends(t, s, n, want, api.OK)
			}
		}
	}
	n := through(t, "-4")
	for _, b := range []byte(" -,]\n") {
		steps(t, "-4", n, b, false, api.OK)
	}
	steps(t, "-4", n, '2', true, api.OK)
	ends(t, "-42", n, api.Whole{Neg: true, Mag: 41}, api.OK)
	steps(t, "-42", n, ' ', false, api.OK)
	steps(t, "-42", n, '.', false, api.ErrFloat)
	n = through(t, "0")
	steps(t, "0", n, ',', false, api.OK)
	steps(t, "0", n, '1', false, api.ErrForm)
}

// TestP601BehindAnErrorAllIsThatError asks both calls behind each error, by
// each byte, also by one that would tell another error.
func TestP601BehindAnErrorAllIsThatError(t *testing.T) {
	for wrong, e := range map[string]api.Errno{
		"x": api.ErrForm, "+": api.ErrForm, ".": api.ErrForm, "e": api.ErrForm, "E": api.ErrForm, " ": api.ErrForm, "\x00": api.ErrForm, "\xff": api.ErrForm,
		"--": api.ErrForm, "-x": api.ErrForm, "-.": api.ErrForm, "-e": api.ErrForm, "- ": api.ErrForm, "-\"": api.ErrForm, "00": api.ErrForm, "01": api.ErrForm, "09": api.ErrForm, "-00": api.ErrForm, "-05": api.ErrForm,
		"0.": api.ErrFloat, "0e": api.ErrFloat, "0E": api.ErrFloat, "-0.": api.ErrFloat, "7.": api.ErrFloat, "-12e": api.ErrFloat, "340E": api.ErrFloat, most + "9.": api.ErrFloat,
	} {
		for b := range 256 {
			n := through(t, wrong[:len(wrong)-1])
			steps(t, wrong, n, wrong[len(wrong)-1], false, e)
			for range 2 {
				ends(t, wrong, n, api.Whole{}, e)
				steps(t, wrong, n, byte(b), false, e)
			}
			for _, b := range []byte("-0 1.e") {
				steps(t, wrong, n, b, false, e)
			}
			ends(t, wrong, n, api.Whole{}, e)
		}
	}
}

func TestP601End(t *testing.T) {
	for s, want := range map[string]api.Whole{
		"0": {}, "-0": {}, "1": {Mag: 1}, "-1": {Neg: true}, "9": {Mag: 9}, "10": {Mag: 10}, "-10": {Neg: true, Mag: 9}, "-128": {Neg: true, Mag: 127}, "1000": {Mag: 1000},
		"1234567890": {Mag: 1234567890}, "-9876543210": {Neg: true, Mag: 9876543209},
		"9223372036854775807": {Mag: math.MaxInt64}, "9223372036854775808": {Mag: 1 << 63}, "-9223372036854775808": {Neg: true, Mag: math.MaxInt64}, "-9223372036854775809": {Neg: true, Mag: 1 << 63},
		"18446744073709551609": {Mag: math.MaxUint64 - 6}, most: {Mag: math.MaxUint64}, "-18446744073709551615": {Neg: true, Mag: math.MaxUint64 - 1}, least: {Neg: true, Mag: math.MaxUint64},
	} {
		ends(t, s, through(t, s), want, api.OK)
	}
	for _, s := range []string{"", "-"} {
		ends(t, s, through(t, s), api.Whole{}, api.ErrForm)
	}
	for _, s := range []string{
		"18446744073709551616", "18446744073709551617", "18446744073709551619", "18446744073709551620", "-18446744073709551617", "-18446744073709551620", "20000000000000000000", "36893488147419103232", "-36893488147419103232",
		most + zero, least + zero, most + most, least + most, strings.Repeat("9", 40), "-" + strings.Repeat("9", 40),
	} {
		ends(t, s, through(t, s), api.Whole{}, api.ErrRange)
	}
}

func TestP601AroundTheEdges(t *testing.T) {
	for _, n := range edges() {
		w, e := wholeOf(n)
		ends(t, n.String(), through(t, n.String()), w, e)
	}
}

// TestP601LongOnes reads numbers that come to 0 in however many words, and others.
func TestP601LongOnes(t *testing.T) {
	for _, digits := range []string{"0", "1", "5", "9", "25", "18446744073709551616"} {
		for _, s := range []string{"1", "-1", "3", "-8", "340282366920938463463374607431768211456"} {
			n := through(t, s)
			for k := range 600 {
				steps(t, s, n, digits[k%len(digits)], true, api.OK)
				if k > 25 {
					ends(t, s, n, api.Whole{}, api.ErrRange)
				}
			}
		}
	}
	n := through(t, strings.Repeat("10", 50_000))
	ends(t, "a long one", n, api.Whole{}, api.ErrRange)
	steps(t, "a long one", n, ' ', false, api.OK)
	steps(t, "a long one", n, 'e', false, api.ErrFloat)
}

// TestP601EndChangesNothing holds that what End tells is of now alone: its own
// errors don't stay.
func TestP601EndChangesNothing(t *testing.T) {
	for _, s := range []string{"-10", "-120340", "9988776655", "18446744073709551615", "-18446744073709551616"} {
		var n decimal.Number
		var m model
		for k := range len(s) {
			for range 2 {
				w, e := m.end()
				ends(t, s[:k], &n, w, e)
			}
			steps(t, s[:k], &n, s[k], true, api.OK)
			m.step(s[k])
		}
		want, _ := wholeOf(great(s))
		ends(t, s, &n, want, api.OK)
	}
	n := through(t, most+"0")
	ends(t, "beyond the range", n, api.Whole{}, api.ErrRange)
	steps(t, "beyond the range", n, '1', true, api.OK)
	steps(t, "beyond the range", n, ',', false, api.OK)
	ends(t, "beyond the range", n, api.Whole{}, api.ErrRange)
	steps(t, "beyond the range", n, '.', false, api.ErrFloat)
	ends(t, "behind an error", n, api.Whole{}, api.ErrFloat)
}

func TestP601EachItsOwn(t *testing.T) {
	one, other := through(t, "-12"), through(t, "3")
	again := *one
	steps(t, "a copy", &again, '9', true, api.OK)
	steps(t, "a copy", &again, 'e', false, api.ErrFloat)
	ends(t, "a copy", &again, api.Whole{}, api.ErrFloat)
	ends(t, "behind its copy", one, api.Whole{Neg: true, Mag: 11}, api.OK)
	ends(t, "the other one", other, api.Whole{Mag: 3}, api.OK)
	steps(t, "the other one", other, '4', true, api.OK)
	ends(t, "the other one", other, api.Whole{Mag: 34}, api.OK)
	ends(t, "behind the other one", one, api.Whole{Neg: true, Mag: 11}, api.OK)
}

// TestP601BesideTheModel goes all ways of so many bytes.
func TestP601BesideTheModel(t *testing.T) {
	for notes, size := range map[string]int{"-019.e ": 6, "-+01289/:.,eEdfxo_ \t\n\x00\x1f\x7f\x80\xb9\xff": 3} {
		all := []string{""}
		for range size {
			var next []string
			for _, s := range all {
				for k := range len(notes) {
					next = append(next, s+notes[k:k+1])
				}
			}
			for _, s := range next {
				agrees(t, s)
			}
			all = next
		}
	}
}

// TestP601LongWay reads long ways of numbers, good ones and hurt ones.
func TestP601LongWay(t *testing.T) {
	draw := draws()
	for range 5_000 {
		s := []byte{"-123456789"[draw(10)]}
		for range draw(26) {
			s = append(s, "0123456789"[draw(10)])
		}
		agrees(t, string(s))
		s[draw(len(s))] = "-0.eE x,+\xff"[draw(10)]
		agrees(t, string(s))
	}
}

func TestP602Print(t *testing.T) {
	for w, want := range map[api.Whole]string{
		{}: "0", {Mag: 1}: "1", {Mag: 9}: "9", {Mag: 10}: "10", {Mag: 12345}: "12345", {Mag: math.MaxInt64}: "9223372036854775807", {Mag: 1 << 63}: "9223372036854775808", {Mag: math.MaxUint64 - 1}: "18446744073709551614", {Mag: math.MaxUint64}: most,
		{Neg: true}: "-1", {Neg: true, Mag: 1}: "-2", {Neg: true, Mag: 8}: "-9", {Neg: true, Mag: 9}: "-10", {Neg: true, Mag: 10}: "-11", {Neg: true, Mag: 99}: "-100", {Neg: true, Mag: 127}: "-128",
		{Neg: true, Mag: math.MaxInt64}: "-9223372036854775808", {Neg: true, Mag: 1 << 63}: "-9223372036854775809", {Neg: true, Mag: math.MaxUint64 - 1}: "-18446744073709551615", {Neg: true, Mag: math.MaxUint64}: least,
	} {
		if got := decimal.Print(w); got != want {
			t.Errorf("Print(%v) = %q, not %q", w, got, want)
		}
	}
}

// backs asks of a Whole what it is printed as, and what is parsed of that.
func backs(t *testing.T, w api.Whole) {
	t.Helper()
	s := decimal.Print(w)
	if want := greatOf(w).String(); s != want {
		t.Errorf("Print(%v) = %q, not %q", w, s, want)
	}
	if got, e := decimal.Parse(s); got != w || e != api.OK {
		t.Errorf("Parse(%q) = %v, %d; not %v", s, got, e, w)
	}
}

func TestP602ThereAndBack(t *testing.T) {
	draw := draws()
	for k := range uint64(2_000) {
		drawn := uint64(draw(1<<24))<<40 | uint64(draw(1<<24))<<20 | uint64(draw(1<<24))
		for _, mag := range []uint64{k, math.MaxUint64 - k, 1<<63 - 1_000 + k, 1<<32 - 1_000 + k, drawn, drawn >> draw(64)} {
			backs(t, api.Whole{Mag: mag})
			backs(t, api.Whole{Neg: true, Mag: mag})
		}
	}
	for _, n := range edges() {
		if w, e := wholeOf(n); e == api.OK {
			backs(t, w)
		}
	}
}

// parses asks what is parsed.
func parses(t *testing.T, s string, w api.Whole, e api.Errno) {
	t.Helper()
	if got, gotE := decimal.Parse(s); got != w || gotE != e {
		t.Errorf("Parse(%q) = %v, %d; not %v, %d", s, got, gotE, w, e)
	}
}

func TestP602Parse(t *testing.T) {
	for s, want := range map[string]api.Whole{
		"0": {}, "-0": {}, "7": {Mag: 7}, "-7": {Neg: true, Mag: 6}, "1050": {Mag: 1050}, "-1": {Neg: true}, most: {Mag: math.MaxUint64}, least: {Neg: true, Mag: math.MaxUint64},
	} {
		parses(t, s, want, api.OK)
	}
	for _, n := range edges() {
		w, e := wholeOf(n)
		parses(t, n.String(), w, e)
	}
}

// TestP602ParseTellsTheFirstError holds that the first byte that is wrong
// tells, also ahead of what End would tell.
func TestP602ParseTellsTheFirstError(t *testing.T) {
	for s, e := range map[string]api.Errno{
		"": api.ErrForm, "-": api.ErrForm, "--1": api.ErrForm, "+1": api.ErrForm, "01": api.ErrForm, "00": api.ErrForm, "-00": api.ErrForm, "-01": api.ErrForm, ".5": api.ErrForm, "-.5": api.ErrForm, "e1": api.ErrForm, "E": api.ErrForm, " 1": api.ErrForm, "abc": api.ErrForm,
		"1 ": api.ErrForm, "1-": api.ErrForm, "1-2": api.ErrForm, "1+": api.ErrForm, "0x10": api.ErrForm, "1_000": api.ErrForm, "1,5": api.ErrForm, "0 1": api.ErrForm, "0-": api.ErrForm, "1\n": api.ErrForm, "1\x00": api.ErrForm, "1\x80": api.ErrForm, "\xff": api.ErrForm,
		"1 .": api.ErrForm, "1x.": api.ErrForm, "1-e": api.ErrForm, "1 \xff": api.ErrForm, "01.": api.ErrForm, most + "0x": api.ErrForm, most + "0 ": api.ErrForm,
		"1.": api.ErrFloat, "1.5": api.ErrFloat, "0.5": api.ErrFloat, "-0.0": api.ErrFloat, "1e5": api.ErrFloat, "2E-3": api.ErrFloat, "1.x": api.ErrFloat, "1.é": api.ErrFloat, "0e0": api.ErrFloat, most + "0.": api.ErrFloat, "1..": api.ErrFloat,
		most + "0": api.ErrRange, "18446744073709551616": api.ErrRange, "-18446744073709551617": api.ErrRange, "-" + most + "0": api.ErrRange,
	} {
		parses(t, s, api.Whole{}, e)
	}
}

// TestP602ParseOtherRunes holds that a rune is no digit, no minus and no point,
// though it is one elsewhere, or its last bits are one's.
func TestP602ParseOtherRunes(t *testing.T) {
	for r := rune(0x80); r <= unicode.MaxRune; r++ {
		if unicode.Is(unicode.Nd, r) || strings.IndexByte("-0123456789.eE", byte(r)) >= 0 && r < 0x20000 {
			for _, s := range []string{string(r), string(r) + "1", "-" + string(r), "1" + string(r), "0" + string(r), "-12" + string(r) + "3"} {
				parses(t, s, api.Whole{}, api.ErrForm)
			}
		}
	}
}
