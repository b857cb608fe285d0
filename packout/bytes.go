package packout

import (
	"math"
	"math/bits"

	"truchman/api"
	"truchman/head"
)

// What has no number in its bytes.
const (
	null = "\xc0"
	no   = "\xc2"
	yes  = "\xc3"
)

const (
	byteBits = 8
	signBit  = 1 // of a number of two's complement
)

// Numbers below zero have all bits turned: of a short one the byte from less
// this on is the whole of it; of others twos is the first byte.
const (
	belowShort = 32
	twos       = 0xd0
)

// The greatest that MessagePack has: of less 1 less a number below zero, and
// of a count.
const (
	mostBelow = math.MaxInt64
	mostCount = math.MaxUint32
)

// scheme is how a number that is not below zero is told.
type scheme struct {
	short uint64 // the first byte that has 0 in it
	below uint64 // the first number that is in no first byte
	long  uint64 // the first byte ahead of a number of the fewest bytes
	least int    // how many these are
}

func wholes() scheme { return scheme{short: 0x00, below: 128, long: 0xcc, least: 1} }
func blobs() scheme  { return scheme{long: 0xc4, least: 1} }
func words() scheme  { return scheme{short: 0xa0, below: 32, long: 0xd9, least: 1} }
func arrays() scheme { return scheme{short: 0x90, below: 16, long: 0xdc, least: 2} }
func maps() scheme   { return scheme{short: 0x80, below: 16, long: 0xde, least: 2} }

// put tells a number in the fewest bytes.
func (s scheme) put(v uint64) string {
	if v < s.below {
		return oneByte(s.short + v)
	}
	return behind(s.long, s.least, v, bits.Len64(v))
}

// behind tells a number that takes so many bits behind a first byte. Of each
// next first byte the number has twice as many bytes.
func behind(first uint64, n int, v uint64, need int) string {
	for n*byteBits < need {
		first, n = first+1, n*2
	}
	return oneByte(first) + head.Big(v, n)
}

// oneByte tells the lowest byte of a number.
func oneByte(v uint64) string {
	return head.Big(v, 1)
}

// isInRange tells whether MessagePack has a part.
func isInRange(v any) bool {
	if n, is := v.(api.Whole); is {
		return !n.Neg || n.Mag <= mostBelow
	}
	if b, is := v.(api.Begin); is {
		return b.Count >= 0 && uint64(b.Count) <= mostCount
	}
	return true
}

// beginOf tells the bytes of a container's begin.
func beginOf(b api.Begin) string {
	if b.Map {
		return maps().put(uint64(b.Count))
	}
	return arrays().put(uint64(b.Count))
}

// valueOf tells those of a part that is no begin and no end of a container.
func valueOf(v any) string {
	if b, is := v.(bool); is {
		return boolOf(b)
	}
	if n, is := v.(api.Whole); is {
		return wholeOf(n)
	}
	if s, is := v.(api.Word); is {
		return words().put(uint64(len(s))) + string(s)
	}
	if b, is := v.(api.Blob); is {
		return blobs().put(uint64(len(b))) + string(b)
	}
	return null
}

// boolOf tells those of a Bool.
func boolOf(b bool) string {
	if b {
		return yes
	}
	return no
}

// wholeOf tells those of a whole number.
func wholeOf(n api.Whole) string {
	if !n.Neg {
		return wholes().put(n.Mag)
	}
	if n.Mag < belowShort {
		return oneByte(^n.Mag)
	}
	return behind(twos, 1, ^n.Mag, signBit+bits.Len64(n.Mag))
}
