package pipe_test

import (
	"fmt"
	"slices"
	"strings"
	"testing"

	"truchman/api"
	"truchman/cborin"
	"truchman/cborout"
	"truchman/jsonin"
	"truchman/jsonout"
	"truchman/packin"
	"truchman/packout"
	"truchman/pipe"
)

// formats are all there are.
var formats = []int{api.Json, api.Cbor, api.Pack}

// setup is a way with much room.
func setup(from, to int) api.Setup {
	return api.Setup{From: from, To: to, Depth: api.MaxDepth, Stage: api.MaxStage}
}

// ways are all of them, with that much room.
func ways(depth, stage int) []api.Setup {
	var all []api.Setup
	for _, from := range formats {
		for _, to := range formats {
			all = append(all, api.Setup{From: from, To: to, Depth: depth, Stage: stage})
		}
	}
	return all
}

// told is what bytes come to.
type told struct {
	out  string
	e    api.Errno
	held int
	over bool
}

func (a told) String() string {
	return fmt.Sprintf("%q, %d, holds %d, over %v", a.out, a.e, a.held, a.over)
}

// model tells what all of some bytes, and an end, come to. It reads all of
// them, then holds back all parts, then writes all of them.
func model(s api.Setup, b string) told {
	parts, e := readAll(s.From, b, s.Depth)
	out := writeAll(s, parts, &e)
	return told{out: out, e: e, over: true}
}

// beginning tells what bytes come to ahead of an end.
func beginning(s api.Setup, b string) told {
	parts, held, e := readSome(s.From, b, s.Depth)
	out := writeAll(s, parts, &e)
	if e != api.OK {
		return told{out: out, e: e, over: true}
	}
	if s.To == api.Pack {
		held += size(parts[goesOn(parts):])
	}
	return told{out: out, held: held}
}

func readAll(from int, b string, depth int) ([]api.Ev, api.Errno) {
	switch from {
	case api.Json:
		return jsonin.All(b, depth)
	case api.Cbor:
		return cborin.All(b, depth)
	}
	return packin.All(b, depth)
}

// readSome tells the parts of a beginning, and how much its reader holds.
func readSome(from int, b string, depth int) (all []api.Ev, held int, e api.Errno) {
	var r interface {
		Step(b byte) ([]any, api.Errno)
		Held() int
	}
	switch from {
	case api.Json:
		r = jsonin.New(depth)
	case api.Cbor:
		r = cborin.New(depth)
	default:
		r = packin.New(depth)
	}
	for k := 0; k < len(b) && e == api.OK; k++ {
		var parts []any
		parts, e = r.Step(b[k])
		for _, v := range parts {
			all = append(all, plain(v))
		}
	}
	return all, r.Held(), e
}

func plain(v any) api.Ev {
	switch x := v.(type) {
	case nil:
		return api.Ev{}
	case bool:
		return api.Ev{Kind: api.Bool, Yes: x}
	case api.Whole:
		return api.Ev{Kind: api.Int, Yes: x.Neg, Mag: x.Mag}
	case api.Word:
		return api.Ev{Kind: api.Text, Text: string(x)}
	case api.Blob:
		return api.Ev{Kind: api.Bytes, Text: string(x)}
	case api.Begin:
		if x.Map {
			return api.Ev{Kind: api.Map, Count: x.Count}
		}
		return api.Ev{Kind: api.Array, Count: x.Count}
	}
	return api.Ev{Kind: api.End}
}

// writeAll tells the bytes of parts ahead of the first error; e is the
// reader's, behind all of them.
func writeAll(s api.Setup, parts []api.Ev, e *api.Errno) string {
	if s.To == api.Pack {
		if n := fits(parts, s.Stage); n < len(parts) {
			parts, *e = parts[:n], api.ErrStage
		}
		parts = counted(parts[:goesOn(parts)])
	}
	out, wrote := "", api.OK
	switch s.To {
	case api.Json:
		out, wrote = jsonout.All(parts...)
	case api.Cbor:
		out, wrote = cborout.All(parts...)
	default:
		out, wrote = packout.All(parts...)
	}
	if wrote != api.OK && wrote != api.ErrMore {
		*e = wrote
	}
	return out
}

func begins(p api.Ev) bool { return p.Kind == api.Array || p.Kind == api.Map }

// endOf tells where the container that begins there ends; beyond all, if it
// does not.
func endOf(parts []api.Ev, at int) int {
	depth := 0
	for k := at; k < len(parts); k++ {
		if begins(parts[k]) {
			depth++
		} else if parts[k].Kind == api.End {
			depth--
		}
		if depth == 0 {
			return k
		}
	}
	return len(parts)
}

// goesOn tells how many parts go on by all of them.
func goesOn(parts []api.Ev) int {
	for at := 0; at < len(parts); at++ {
		if begins(parts[at]) && parts[at].Count == -1 {
			end := endOf(parts, at)
			if end == len(parts) {
				return at
			}
			at = end
		}
	}
	return len(parts)
}

// fits tells how many parts there are ahead of the one that is too much to be
// held: all, if none is.
func fits(parts []api.Ev, limit int) int {
	for at := 0; at < len(parts); at++ {
		if !begins(parts[at]) || parts[at].Count != -1 {
			continue
		}
		end := endOf(parts, at)
		for k := at; k < end; k++ {
			if size(parts[at:k+1]) > limit {
				return k
			}
		}
		at = end
	}
	return len(parts)
}

func size(parts []api.Ev) int {
	n := len(parts)
	for _, p := range parts {
		n += len(p.Text)
	}
	return n
}

// counted tells parts with the counts of all containers.
func counted(parts []api.Ev) []api.Ev {
	all := slices.Clone(parts)
	for at := range all {
		if !begins(all[at]) || all[at].Count != -1 {
			continue
		}
		n, end := 0, endOf(parts, at)
		for k := at + 1; k < end; k++ {
			n++
			if begins(parts[k]) {
				k = endOf(parts, k)
			}
		}
		if all[at].Kind == api.Map {
			n /= 2
		}
		all[at].Count = n
	}
	return all
}

// agrees holds each beginning of bytes, and all of them with an end, against
// the model, and tells what all come to.
func agrees(t *testing.T, s api.Setup, b string) told {
	t.Helper()
	p, out, over := pipe.New(s), "", told{}
	for k := range len(b) {
		bytes, e := p.Step(b[k])
		out += bytes
		got, want := told{out, e, p.Held(), p.Over()}, beginning(s, b[:k+1])
		if over.over {
			want = over
		}
		if got != want {
			t.Fatalf("%v, %.300q: behind %d bytes %v; not %v", s, b, k+1, got, want)
		}
		if want.over {
			over = want
		}
	}
	bytes, e := p.End()
	got, want := told{out + bytes, e, p.Held(), p.Over()}, model(s, b)
	if got != want {
		t.Fatalf("%v, %.300q: behind the end %v; not %v", s, b, got, want)
	}
	if out, e := pipe.Batch(s, b); out != got.out || e != got.e {
		t.Fatalf("%v, %.300q: Batch tells %q, %d; Steps %v", s, b, out, e, got)
	}
	return got
}

// draws tells numbers below n, the same ones each time.
func draws(seed uint64) func(n int) int {
	return func(n int) int {
		seed = seed*6364136223846793005 + 1442695040888963407
		return int(seed >> 33 % uint64(n))
	}
}

// pieces are what bytes of a format are made of, more or less.
func pieces(format int) []string {
	switch format {
	case api.Json:
		return []string{"[", "]", "{", "}", ",", ":", "\"a\"", "\"b\":", "\"\\u00e9\":[", "null", "true", "7", "-1", "18446744073709551615", "-9223372036854775809", " ", "[]", "{}", "1.5", "x"}
	case api.Cbor:
		return []string{"\x9f", "\xbf", "\xff", "\x80", "\xa0", "\x81", "\x82", "\xa1\x61a", "\xa1\x60\x9f", "\x61b", "\x42hi", "\x7f\x61a\x60\xff", "\xf6", "\xf5", "\x05", "\x20", "\x3b\x80\x00\x00\x00\x00\x00\x00\x00", "\x19\x01\x00", "\xf9", "\xc0"}
	}
	return []string{"\x90", "\x80", "\x91", "\x92", "\x81\xa1a", "\x82\xa0", "\xdc\x00\x02", "\xdf\x00\x00\x00\x01", "\xa1b", "\xd9\x02hi", "\xc4\x01\xff", "\xc0", "\xc3", "\x07", "\xff", "\xcf\xff\xff\xff\xff\xff\xff\xff\xff", "\xd3\x80\x00\x00\x00\x00\x00\x00\x00", "\xcd\x01\x00", "\xca", "\xc1"}
}

// document grows one of a format, with no more containers in one another than
// that, in whatever forms its format has.
func document(draw func(n int) int, format, depth int) string {
	kind := draw(8)
	if depth == 0 || kind < 3 {
		return value(draw, format)
	}
	isMap, n := kind%2 == 0, draw(4)
	var in []string
	for range n {
		item := document(draw, format, depth-1)
		if isMap {
			item = key(format, draw(30)) + item
		}
		in = append(in, item)
	}
	switch {
	case format == api.Json && isMap:
		return "{" + strings.Join(in, ",") + " }"
	case format == api.Json:
		return "[" + strings.Join(in, " ,") + "]"
	case format == api.Cbor && draw(2) == 0:
		return []string{"\x9f", "\xbf"}[kind%2^1] + strings.Join(in, "") + "\xff"
	case format == api.Cbor:
		return string([]byte{[]byte{0x80, 0xa0}[kind%2^1] + byte(n)}) + strings.Join(in, "")
	}
	return string([]byte{[]byte{0x90, 0x80}[kind%2^1] + byte(n)}) + strings.Join(in, "")
}

// key tells one of so many bytes, and what parts it from its value.
func key(format, n int) string {
	text := strings.Repeat("k", n)
	switch format {
	case api.Json:
		return `"` + text + `":`
	case api.Cbor:
		return "\x78" + string([]byte{byte(n)}) + text
	}
	return "\xd9" + string([]byte{byte(n)}) + text
}

func value(draw func(n int) int, format int) string {
	var all []string
	switch format {
	case api.Json:
		all = []string{"null", "true", "false", "0", "-17", "18446744073709551615", "-9223372036854775808", `""`, `"a\n\u20ac"`, `"` + strings.Repeat("t", 200) + `"`}
	case api.Cbor:
		all = []string{"\xf6", "\xf5", "\xf4", "\x00", "\x30", "\x1b\xff\xff\xff\xff\xff\xff\xff\xff", "\x3b\x7f\xff\xff\xff\xff\xff\xff\xff", "\x60", "\x7f\x62a\n\x63\u20ac\xff", "\x58\xc8" + strings.Repeat("\xfe", 200)}
	default:
		all = []string{"\xc0", "\xc3", "\xc2", "\x00", "\xef", "\xcf\xff\xff\xff\xff\xff\xff\xff\xff", "\xd3\x80\x00\x00\x00\x00\x00\x00\x00", "\xa0", "\xa5a\n\u20ac", "\xc4\xc8" + strings.Repeat("\xfe", 200)}
	}
	return all[draw(len(all))]
}
