package cborout

import (
	"truchman/api"
	"truchman/head"
)

// The majors of heads.
const (
	wholes = iota
	belowZero
	blobs
	words
	arrays
	maps
)

// What has no number in its head.
const (
	no        = "\xf4"
	yes       = "\xf5"
	null      = "\xf6"
	openArray = "\x9f"
	openMap   = "\xbf"
	openEnds  = "\xff"
)

// valueOf tells the bytes of a part that is no begin and no end of a
// container.
func valueOf(v any) string {
	if b, is := v.(bool); is {
		return boolOf(b)
	}
	if n, is := v.(api.Whole); is {
		return wholeOf(n)
	}
	if s, is := v.(api.Word); is {
		return textOf(words, string(s))
	}
	if b, is := v.(api.Blob); is {
		return textOf(blobs, string(b))
	}
	return null
}

// boolOf tells those of a Bool.
func boolOf(b bool) string {
	if b {
		return yes
	}
	return no
}

// wholeOf tells those of a whole number.
func wholeOf(n api.Whole) string {
	if n.Neg {
		return head.Put(belowZero, n.Mag)
	}
	return head.Put(wholes, n.Mag)
}

// textOf tells those of a text, or of bytes.
func textOf(major int, s string) string {
	return head.Put(major, uint64(len(s))) + s
}

// beginOf tells those of a container's begin.
func beginOf(b api.Begin) string {
	switch {
	case b.Count == unknown && b.Map:
		return openMap
	case b.Count == unknown:
		return openArray
	case b.Map:
		return head.Put(maps, uint64(b.Count))
	}
	return head.Put(arrays, uint64(b.Count))
}

// endOf tells those of a container's end: where the count was known, none.
func endOf(counted bool) string {
	if counted {
		return ""
	}
	return openEnds
}
