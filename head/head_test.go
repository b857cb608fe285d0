package head_test

import (
	"encoding/binary"
	"math"
	"testing"

	"truchman/api"
	"truchman/head"
)

// told is all that a head tells behind a Step.
type told struct {
	end   bool
	e     api.Errno
	major int
	value uint64
	open  bool
}

// model keeps the bytes since the beginning, and the first error.
type model struct {
	seen []byte
	e    api.Errno
}

// follow tells how many bytes follow a first one; -1: it begins no head.
func follow(first byte) int {
	switch first % 32 {
	case 24:
		return 1
	case 25:
		return 2
	case 26:
		return 4
	case 27:
		return 8
	case 28, 29, 30:
		return -1
	}
	return 0
}

func (m *model) step(b byte) told {
	switch {
	case m.e != api.OK:
	case len(m.seen) == 0:
		if m.seen = []byte{b}; follow(b) < 0 {
			m.e = api.ErrForm
		}
	case len(m.seen) > follow(m.seen[0]):
		m.e = api.ErrState
	default:
		m.seen = append(m.seen, b)
	}
	return m.now()
}

func (m *model) now() told {
	if m.e != api.OK {
		return told{e: m.e}
	}
	if len(m.seen) == 0 {
		return told{}
	}
	first := m.seen[0]
	now := told{major: int(first / 32), end: len(m.seen) == 1+follow(first)}
	switch {
	case !now.end:
	case first%32 == 31:
		now.open = true
	case first%32 < 24:
		now.value = uint64(first % 32)
	default:
		now.value = binary.BigEndian.Uint64(append(make([]byte, 8-follow(first), 8), m.seen[1:]...))
	}
	return now
}

// step takes a byte, and tells what the head tells of itself behind it.
func step(h *head.Head, b byte) told {
	end, e := h.Step(b)
	return told{end, e, h.Major(), h.Value(), h.Open()}
}

// through steps through bytes, and tells the head behind them.
func through(b ...byte) *head.Head {
	h := &head.Head{}
	for _, c := range b {
		h.Step(c)
	}
	return h
}

// tells asks what the last one of some bytes tells.
func tells(t *testing.T, b []byte, want told) {
	t.Helper()
	h := through(b[:len(b)-1]...)
	if got := step(h, b[len(b)-1]); got != want {
		t.Errorf("% x: the last byte tells %v, not %v", b, got, want)
	}
}

// stays asks that a head tells of itself what is wanted, however often.
func stays(t *testing.T, what string, h *head.Head, major int, value uint64, open bool) {
	t.Helper()
	for range 2 {
		if h.Major() != major || h.Value() != value || h.Open() != open {
			t.Errorf("%s: %d, %d, %v; not %d, %d, %v", what, h.Major(), h.Value(), h.Open(), major, value, open)
		}
	}
}

// agrees steps through all bytes, and asks behind each what the model says.
func agrees(t *testing.T, b []byte) {
	t.Helper()
	var h head.Head
	var m model
	for k, c := range b {
		want := m.step(c)
		if got := step(&h, c); got != want {
			t.Fatalf("% x: the last byte tells %v, not %v", b[:k+1], got, want)
		}
	}
}

// draws tells a function that draws numbers from 0 on, below n.
func draws() func(n int) int {
	seed := uint32(7)
	return func(n int) int {
		seed = seed*1_664_525 + 1_013_904_223
		return int(seed>>8) % n
	}
}

// edges are numbers at which something could turn, with others around them.
func edges() []uint64 {
	all := []uint64{math.MaxUint64, math.MaxUint64 - 1, 0x0102030405060708, 0x8000000000000001, 0xfffefdfcfbfaf9f8}
	for v := range uint64(600) {
		all = append(all, v)
	}
	for bit := range 64 {
		at := uint64(1) << bit
		all = append(all, at-2, at-1, at, at+1, at|at>>8)
	}
	return all
}

func TestP701ZeroHasSeenNothing(t *testing.T) {
	stays(t, "a zero one", &head.Head{}, 0, 0, false)
	for b := range 256 {
		var h, cleared head.Head
		cleared.Clear()
		if got, want := step(&h, byte(b)), step(&cleared, byte(b)); got != want {
			t.Errorf("Step(%#x) tells %v of a zero one, %v of one that was cleared", b, got, want)
		}
	}
}

func TestP701Nil(t *testing.T) {
	var none *head.Head
	for b := range 256 {
		none.Clear()
		if got := step(none, byte(b)); got != (told{e: api.ErrState}) {
			t.Errorf("nil: Step(%#x) tells %v", b, got)
		}
	}
	stays(t, "nil", none, 0, 0, false)
}

// TestP701FirstByte says of each major what each first byte of it tells.
func TestP701FirstByte(t *testing.T) {
	for major := range 8 {
		for low := range 32 {
			want := told{major: major}
			switch {
			case low < 24:
				want.end, want.value = true, uint64(low)
			case low == 28 || low == 29 || low == 30:
				want = told{e: api.ErrForm}
			case low == 31:
				want.end, want.open = true, true
			}
			tells(t, []byte{byte(major*32 + low)}, want)
		}
	}
}

func TestP701BytesThatFollow(t *testing.T) {
	for _, c := range []struct {
		b    string
		want told
	}{
		{"\x18\x00", told{end: true}},
		{"\x18\x17", told{end: true, value: 23}},
		{"\x98\x64", told{end: true, major: 4, value: 100}},
		{"\x58\xff", told{end: true, major: 2, value: 255}},
		{"\x78\x1f", told{end: true, major: 3, value: 31}},
		{"\xb9\x01", told{major: 5}},
		{"\xb9\x01\x02", told{end: true, major: 5, value: 258}},
		{"\x39\xff\xff", told{end: true, major: 1, value: 65535}},
		{"\xda\x01\x02", told{major: 6}},
		{"\xda\x01\x02\x03", told{major: 6}},
		{"\xda\x01\x02\x03\x04", told{end: true, major: 6, value: 0x01020304}},
		{"\xfa\xff\xff\xff\xff", told{end: true, major: 7, value: math.MaxUint32}},
		{"\x1b\x01\x02\x03\x04\x05\x06\x07", told{}},
		{"\x1b\x01\x02\x03\x04\x05\x06\x07\x08", told{end: true, value: 0x0102030405060708}},
		{"\x3b\xff\xff\xff\xff\xff\xff\xff", told{major: 1}},
		{"\x3b\xff\xff\xff\xff\xff\xff\xff\xff", told{end: true, major: 1, value: math.MaxUint64}},
		{"\x9b\x80\x00\x00\x00\x00\x00\x00\x00", told{end: true, major: 4, value: 1 << 63}},
		{"\xfb\x00\x00\x00\x00\x00\x00\x00\x00", told{end: true, major: 7}},
	} {
		tells(t, []byte(c.b), c.want)
	}
}

// TestP701HowManyFollow holds that a head ends at its last byte, not sooner,
// not later, whatever its bytes are, and that a part of a number is none.
func TestP701HowManyFollow(t *testing.T) {
	for first := range 256 {
		n := follow(byte(first))
		if n < 1 {
			continue
		}
		for _, b := range []byte{0, 1, 0x1c, 0x1f, 0x7f, 0x80, 0xff} {
			h := through(byte(first))
			stays(t, "behind the first byte", h, first/32, 0, false)
			for k := 1; k < n; k++ {
				if got := step(h, b); got != (told{major: first / 32}) {
					t.Errorf("%#x and %d times %#x tells %v", first, k, b, got)
				}
			}
			value := uint64(b) * (math.MaxUint64 / 255) >> (64 - 8*n)
			if got := step(h, b); got != (told{end: true, major: first / 32, value: value}) {
				t.Errorf("%#x and %d times %#x tells %v", first, n, b, got)
			}
			stays(t, "at its end", h, first/32, value, false)
		}
	}
}

// TestP701BehindItsEnd holds that of each byte behind the end ErrState is
// told, and that this is an error like others.
func TestP701BehindItsEnd(t *testing.T) {
	for _, whole := range []string{"\x00", "\x17", "\x85", "\xf6", "\x5f", "\xff", "\x18\x05", "\x79\x01\x02", "\xba\x01\x02\x03\x04", "\x3b\x01\x02\x03\x04\x05\x06\x07\x08"} {
		for b := range 256 {
			h := through([]byte(whole)...)
			for _, c := range []byte{byte(b), 0, 0x1c, 0x18, byte(b)} {
				if got := step(h, c); got != (told{e: api.ErrState}) {
					t.Errorf("behind % x: %#x tells %v", whole, c, got)
				}
			}
			stays(t, "behind its end", h, 0, 0, false)
		}
	}
}

// TestP701BehindAnErrorAllIsThatError holds that no byte turns an error, also
// one that would tell another error, or begin a head.
func TestP701BehindAnErrorAllIsThatError(t *testing.T) {
	for major := range 8 {
		for low := 28; low <= 30; low++ {
			for b := range 256 {
				h := through(byte(major*32 + low))
				for range 10 {
					if got := step(h, byte(b)); got != (told{e: api.ErrForm}) {
						t.Fatalf("behind %#x: %#x tells %v", major*32+low, b, got)
					}
				}
				stays(t, "behind an error", h, 0, 0, false)
			}
		}
	}
}

// TestP701Clear clears in each place, and reads each way of heads behind it.
func TestP701Clear(t *testing.T) {
	ways := []string{"", "\x00", "\x97", "\xff", "\x1c", "\xde\x01", "\x05\x01", "\x5f\x00", "\x78", "\xf8\xff", "\xb9\xff", "\xb9\xff\xff", "\xda\xff\xff\xff", "\xfb\xff\xff\xff\xff\xff\xff\xff", "\xfb\xff\xff\xff\xff\xff\xff\xff\xff", "\xfb\xff\xff\xff\xff\xff\xff\xff\xff\xff"}
	for _, ahead := range ways {
		for _, behind := range ways {
			h := through([]byte(ahead)...)
			h.Clear()
			stays(t, "behind Clear", h, 0, 0, false)
			h.Clear()
			if *h != (head.Head{}) {
				t.Errorf("behind % x: Clear leaves %v", ahead, *h)
			}
			var m model
			for k := range len(behind) {
				want := m.step(behind[k])
				if got := step(h, behind[k]); got != want {
					t.Errorf("% x, Clear, % x: byte %d tells %v, not %v", ahead, behind, k, got, want)
				}
			}
		}
	}
}

func TestP701EachItsOwn(t *testing.T) {
	one, other := through(0xb9, 0x01), through(0x98)
	again := *one
	if got := step(&again, 0xff); got != (told{end: true, major: 5, value: 0x1ff}) {
		t.Errorf("a copy tells %v", got)
	}
	if got := step(&again, 0); got != (told{e: api.ErrState}) {
		t.Errorf("a copy tells %v behind its end", got)
	}
	other.Clear()
	if got := step(one, 0x02); got != (told{end: true, major: 5, value: 0x102}) {
		t.Errorf("behind its copy: %v", got)
	}
	stays(t, "the other one", other, 0, 0, false)
}

// TestP701BesideTheModel goes each way of two first bytes, with more behind
// them, and each of three that differ in what follows them.
func TestP701BesideTheModel(t *testing.T) {
	for first := range 256 {
		for second := range 256 {
			for _, rest := range []string{"", "\x00\x01\x7f\x80\xff\x1c\x18\x00\x00", "\xff\xff\xff\xff\xff\xff\xff\xff\xff"} {
				agrees(t, append([]byte{byte(first), byte(second)}, rest...))
			}
		}
	}
	notes := "\x00\x17\x18\x19\x1a\x1b\x1c\x1e\x1f\x9f\xbb\xd9\xff"
	for a := range len(notes) {
		for b := range len(notes) {
			for c := range len(notes) {
				agrees(t, []byte{notes[a], notes[b], notes[c], 0x01})
			}
		}
	}
}

func TestP701LongWay(t *testing.T) {
	draw := draws()
	var h head.Head
	var m model
	for k := range 200_000 {
		if draw(12) == 0 {
			h.Clear()
			m = model{}
		}
		b := byte(draw(256))
		want := m.step(b)
		if got := step(&h, b); got != want {
			t.Fatalf("step %d: %#x tells %v, not %v", k, b, got, want)
		}
	}
}

func TestP702Put(t *testing.T) {
	for _, c := range []struct {
		major int
		v     uint64
		want  string
	}{
		{0, 0, "\x00"}, {0, 1, "\x01"}, {0, 23, "\x17"}, {0, 24, "\x18\x18"}, {0, 31, "\x18\x1f"}, {0, 255, "\x18\xff"}, {0, 256, "\x19\x01\x00"}, {0, 1000, "\x19\x03\xe8"}, {0, 65535, "\x19\xff\xff"}, {0, 65536, "\x1a\x00\x01\x00\x00"},
		{0, 1000000, "\x1a\x00\x0f\x42\x40"}, {0, math.MaxUint32, "\x1a\xff\xff\xff\xff"}, {0, math.MaxUint32 + 1, "\x1b\x00\x00\x00\x01\x00\x00\x00\x00"}, {0, 1000000000000, "\x1b\x00\x00\x00\xe8\xd4\xa5\x10\x00"}, {0, math.MaxUint64, "\x1b\xff\xff\xff\xff\xff\xff\xff\xff"},
		{1, 23, "\x37"}, {1, 99, "\x38\x63"}, {1, math.MaxUint64, "\x3b\xff\xff\xff\xff\xff\xff\xff\xff"}, {2, 0, "\x40"}, {2, 24, "\x58\x18"}, {3, 0, "\x60"}, {3, 200, "\x78\xc8"}, {4, 0, "\x80"}, {4, 25, "\x98\x19"}, {4, 100, "\x98\x64"}, {4, 256, "\x99\x01\x00"},
		{5, 2, "\xa2"}, {5, 65536, "\xba\x00\x01\x00\x00"}, {6, 1, "\xc1"}, {6, 0x0102030405060708, "\xdb\x01\x02\x03\x04\x05\x06\x07\x08"}, {7, 22, "\xf6"}, {7, 23, "\xf7"}, {7, 24, "\xf8\x18"}, {7, 255, "\xf8\xff"},
	} {
		if got := head.Put(c.major, c.v); got != c.want {
			t.Errorf("Put(%d, %d) = % x, not % x", c.major, c.v, got, c.want)
		}
	}
}

// TestP702PutMajorModuloEight holds that each major stands for one of 0 to 7.
func TestP702PutMajorModuloEight(t *testing.T) {
	for major, want := range map[int]int{
		8: 0, 9: 1, 15: 7, 16: 0, 100: 4, 256: 0, 263: 7, math.MaxInt: 7, math.MaxInt - 6: 1,
		-1: 7, -2: 6, -3: 5, -4: 4, -5: 3, -6: 2, -7: 1, -8: 0, -9: 7, -256: 0, -257: 7, math.MinInt: 0, math.MinInt + 3: 3,
	} {
		for _, v := range edges() {
			if got, is := head.Put(major, v), head.Put(want, v); got != is {
				t.Errorf("Put(%d, %d) = % x, not % x", major, v, got, is)
			}
		}
	}
	for major := -64; major < 64; major++ {
		want := string([]byte{byte(uint8(major) % 8 * 32)})
		if got := head.Put(major, 0); got != want {
			t.Errorf("Put(%d, 0) = % x, not % x", major, got, want)
		}
	}
}

// TestP702PutThereAndBack reads each head again, and holds that none of fewer
// bytes would do.
func TestP702PutThereAndBack(t *testing.T) {
	draw := draws()
	all := edges()
	for range 20_000 {
		drawn := uint64(draw(1<<24))<<40 | uint64(draw(1<<24))<<20 | uint64(draw(1<<24))
		all = append(all, drawn>>draw(64))
	}
	for _, v := range all {
		size := 9
		switch {
		case v < 24:
			size = 1
		case v < 1<<8:
			size = 2
		case v < 1<<16:
			size = 3
		case v < 1<<32:
			size = 5
		}
		for major := range 8 {
			b := head.Put(major, v)
			if len(b) != size {
				t.Errorf("Put(%d, %d) = % x: not %d bytes", major, v, b, size)
				continue
			}
			tells(t, []byte(b), told{end: true, major: major, value: v})
		}
	}
}

func TestP702Big(t *testing.T) {
	for _, c := range []struct {
		v    uint64
		n    int
		want string
	}{
		{0, 1, "\x00"}, {0, 8, "\x00\x00\x00\x00\x00\x00\x00\x00"}, {5, 1, "\x05"}, {5, 4, "\x00\x00\x00\x05"}, {255, 1, "\xff"}, {255, 2, "\x00\xff"}, {256, 1, "\x00"}, {256, 2, "\x01\x00"}, {258, 1, "\x02"}, {258, 3, "\x00\x01\x02"}, {0x123456, 2, "\x34\x56"},
		{0x0102030405060708, 1, "\x08"}, {0x0102030405060708, 2, "\x07\x08"}, {0x0102030405060708, 3, "\x06\x07\x08"}, {0x0102030405060708, 4, "\x05\x06\x07\x08"}, {0x0102030405060708, 5, "\x04\x05\x06\x07\x08"}, {0x0102030405060708, 6, "\x03\x04\x05\x06\x07\x08"}, {0x0102030405060708, 7, "\x02\x03\x04\x05\x06\x07\x08"}, {0x0102030405060708, 8, "\x01\x02\x03\x04\x05\x06\x07\x08"},
		{math.MaxUint64, 1, "\xff"}, {math.MaxUint64, 7, "\xff\xff\xff\xff\xff\xff\xff"}, {math.MaxUint64, 8, "\xff\xff\xff\xff\xff\xff\xff\xff"}, {1 << 63, 7, "\x00\x00\x00\x00\x00\x00\x00"}, {1 << 63, 8, "\x80\x00\x00\x00\x00\x00\x00\x00"},
	} {
		if got := head.Big(c.v, c.n); got != c.want {
			t.Errorf("Big(%#x, %d) = % x, not % x", c.v, c.n, got, c.want)
		}
	}
	for _, v := range edges() {
		whole := string(binary.BigEndian.AppendUint64(nil, v))
		for n := 1; n <= 8; n++ {
			if got := head.Big(v, n); got != whole[8-n:] {
				t.Errorf("Big(%#x, %d) = % x, not % x", v, n, got, whole[8-n:])
			}
		}
	}
}

func TestP702BigOfNoSuchSize(t *testing.T) {
	for _, n := range []int{0, -1, -2, -8, -9, 9, 10, 16, 64, 256, 257, math.MaxInt32, math.MaxInt, math.MinInt32, math.MinInt} {
		for _, v := range []uint64{0, 5, 258, math.MaxUint64} {
			if got := head.Big(v, n); got != "" {
				t.Errorf("Big(%d, %d) = % x, not none", v, n, got)
			}
		}
	}
}
