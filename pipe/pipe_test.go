package pipe_test

import (
	"fmt"
	"math"
	"strings"
	"testing"

	"truchman/api"
	"truchman/pipe"
)

// becomes asks what all of some bytes, and an end, come to.
func becomes(t *testing.T, s api.Setup, b, out string, e api.Errno) {
	t.Helper()
	if got := agrees(t, s, b); got.out != out || got.e != e {
		t.Errorf("%v, %.300q: %q, %d; not %q, %d", s, b, got.out, got.e, out, e)
	}
}

// step takes one byte, and tells what is known behind it.
func step(p *pipe.Pipe, b byte) told {
	out, e := p.Step(b)
	return told{out, e, p.Held(), p.Over()}
}

// end takes an end, and tells what is known behind it.
func end(p *pipe.Pipe) told {
	out, e := p.End()
	return told{out, e, p.Held(), p.Over()}
}

// is asks for what is told.
func is(t *testing.T, what string, got, want told) {
	t.Helper()
	if got != want {
		t.Fatalf("%s tells %v; not %v", what, got, want)
	}
}

// stays asks that one that is over tells nothing but that error.
func stays(t *testing.T, p *pipe.Pipe, e api.Errno) {
	t.Helper()
	for range 2 {
		for b := range 256 {
			is(t, fmt.Sprintf("%x behind all", b), step(p, byte(b)), told{e: e, over: true})
		}
		is(t, "an end behind all", end(p), told{e: e, over: true})
	}
}

// through makes one, and steps it through bytes that have no error.
func through(t *testing.T, s api.Setup, b string) (*pipe.Pipe, string) {
	t.Helper()
	p, out := pipe.New(s), ""
	for k := range len(b) {
		bytes, e := p.Step(b[k])
		if e != api.OK || p.Over() {
			t.Fatalf("%v, %.300q: byte %d tells %d, over %v", s, b, k, e, p.Over())
		}
		out += bytes
	}
	return p, out
}

// with tells a setup with another room.
func with(s api.Setup, depth, stage int) api.Setup {
	s.Depth, s.Stage = depth, stage
	return s
}

func TestP1801Examples(t *testing.T) {
	becomes(t, setup(api.Json, api.Pack), "[1]", "\x91\x01", api.OK)
}

// TestP1801Right holds which ways there may be, and that New makes just those.
func TestP1801Right(t *testing.T) {
	least := api.Setup{From: api.Json, To: api.Json, Depth: 1}
	for what, edges := range map[string]struct {
		of          func(s *api.Setup) *int
		first, last int
	}{
		"From":  {func(s *api.Setup) *int { return &s.From }, 1, 3},
		"To":    {func(s *api.Setup) *int { return &s.To }, 1, 3},
		"Depth": {func(s *api.Setup) *int { return &s.Depth }, 1, 16},
		"Stage": {func(s *api.Setup) *int { return &s.Stage }, 0, 2000},
		"Limit": {func(s *api.Setup) *int { return &s.Limit }, 0, 255},
	} {
		for _, n := range []int{math.MinInt, -1 << 32, -256, -17, -3, -2, -1, 0, 1, 2, 3, 4, 15, 16, 17, 254, 255, 256, 257, 1999, 2000, 2001, 1 << 16, 1 << 32, 1<<32 + 1, math.MaxInt} {
			s := least
			*edges.of(&s) = n
			right := edges.first <= n && n <= edges.last
			if pipe.Right(s) != right || (pipe.New(s) != nil) != right {
				t.Errorf("%s %d: Right tells %v, New makes one: %v", what, n, pipe.Right(s), pipe.New(s) != nil)
			}
			if out, e := pipe.Batch(s, "1"); !right && (out != "" || e != api.ErrArg) {
				t.Errorf("%s %d: Batch tells %q, %d", what, n, out, e)
			}
		}
	}
	for _, s := range []api.Setup{{}, {From: 3, To: 3}, {Depth: 1}, {From: 1, Depth: 1}, {To: 1, Depth: 1}} {
		if pipe.Right(s) || pipe.New(s) != nil {
			t.Errorf("%v is right", s)
		}
	}
	for _, s := range ways(16, 2000) {
		s.Limit = 255
		if !pipe.Right(s) || pipe.New(s) == nil || pipe.New(s) == pipe.New(s) {
			t.Errorf("%v is not right", s)
		}
	}
}

// TestP1801Ways holds each way through, of a document in the forms of each
// format.
func TestP1801Ways(t *testing.T) {
	in := map[int][]string{
		api.Json: {"{\"a\":[true,-1,300],\"b\":{\"c\":null,\"d\":\"x\\n\"}}", " { \"a\" : [ true , -1 , 300 ]\t,\r\n \"\\u0062\":{\"c\":null, \"d\":\"\\u0078\\u000a\"}} "},
		api.Cbor: {"\xbf\x61a\x9f\xf5\x20\x19\x01\x2c\xff\x61b\xbf\x61c\xf6\x61d\x62x\n\xff\xff", "\xbf\x7f\x61a\xff\x9f\xf5\x38\x00\x1a\x00\x00\x01\x2c\xff\x78\x01b\xbf\x61c\xf6\x61d\x7f\x61x\x60\x61\n\xff\xff\xff"},
	}
	known := map[int][]string{
		api.Cbor: {"\xa2\x61a\x83\xf5\x20\x19\x01\x2c\x61b\xa2\x61c\xf6\x61d\x62x\n", "\xb8\x02\x61a\x98\x03\xf5\x20\x19\x01\x2c\x61b\xa2\x61c\xf6\x61d\x62x\n"},
		api.Pack: {"\x82\xa1a\x93\xc3\xff\xcd\x01\x2c\xa1b\x82\xa1c\xc0\xa1d\xa2x\n", "\xde\x00\x02\xd9\x01a\xdc\x00\x03\xc3\xd0\xff\xce\x00\x00\x01\x2c\xa1b\xdf\x00\x00\x00\x02\xa1c\xc0\xda\x00\x01d\xa2x\n"},
	}
	for _, c := range []struct {
		in   map[int][]string
		cbor string
	}{{in, in[api.Cbor][0]}, {known, known[api.Cbor][0]}} {
		for from, all := range c.in {
			for _, b := range all {
				becomes(t, setup(from, api.Json), b, in[api.Json][0], api.OK)
				becomes(t, setup(from, api.Cbor), b, c.cbor, api.OK)
				becomes(t, setup(from, api.Pack), b, known[api.Pack][0], api.OK)
			}
		}
	}
}

// TestP1801Values holds each kind of a value, alone, through each way.
func TestP1801Values(t *testing.T) {
	for _, v := range []map[int]string{
		{api.Json: "null", api.Cbor: "\xf6", api.Pack: "\xc0"},
		{api.Json: "true", api.Cbor: "\xf5", api.Pack: "\xc3"},
		{api.Json: "false", api.Cbor: "\xf4", api.Pack: "\xc2"},
		{api.Json: "0", api.Cbor: "\x00", api.Pack: "\x00"},
		{api.Json: "12", api.Cbor: "\x0c", api.Pack: "\x0c"},
		{api.Json: "-33", api.Cbor: "\x38\x20", api.Pack: "\xd0\xdf"},
		{api.Json: "18446744073709551615", api.Cbor: "\x1b\xff\xff\xff\xff\xff\xff\xff\xff", api.Pack: "\xcf\xff\xff\xff\xff\xff\xff\xff\xff"},
		{api.Json: "-9223372036854775808", api.Cbor: "\x3b\x7f\xff\xff\xff\xff\xff\xff\xff", api.Pack: "\xd3\x80\x00\x00\x00\x00\x00\x00\x00"},
		{api.Json: `""`, api.Cbor: "\x60", api.Pack: "\xa0"},
		{api.Json: `"é\"\u001f"`, api.Cbor: "\x64é\"\x1f", api.Pack: "\xa4é\"\x1f"},
	} {
		for from, b := range v {
			for to, out := range v {
				becomes(t, setup(from, to), b, out, api.OK)
			}
		}
	}
	// JSON does not say how many parts a container has.
	for from, to := range map[string]string{"[]": "\x9f\xff", "{}": "\xbf\xff"} {
		becomes(t, setup(api.Json, api.Cbor), from, to, api.OK)
		becomes(t, setup(api.Cbor, api.Json), to, from, api.OK)
		becomes(t, setup(api.Cbor, api.Cbor), to, to, api.OK)
	}
	for from, to := range map[string]string{"\x90": "\x80", "\x80": "\xa0"} {
		becomes(t, setup(api.Pack, api.Cbor), from, to, api.OK)
		becomes(t, setup(api.Cbor, api.Pack), to, from, api.OK)
		becomes(t, setup(api.Cbor, api.Cbor), to, to, api.OK)
	}
	// Bytes have no form of their own in JSON, and come back from it as a text.
	for from, b := range map[int]string{api.Cbor: "\x43\xff\x00\xfe", api.Pack: "\xc4\x03\xff\x00\xfe"} {
		becomes(t, setup(from, api.Json), b, `"_wD-"`, api.OK)
		becomes(t, setup(from, api.Cbor), b, "\x43\xff\x00\xfe", api.OK)
		becomes(t, setup(from, api.Pack), b, "\xc4\x03\xff\x00\xfe", api.OK)
	}
}

// TestP1801AsItComes holds that bytes are told by the very byte that they are
// known by.
func TestP1801AsItComes(t *testing.T) {
	for _, c := range []struct {
		from, to int
		in       string
		out      []string
	}{
		{api.Json, api.Json, ` [1,"a",{}]`, []string{"", "[", "", "1", "", "", `,"a"`, "", ",{", "}", "]"}},
		{api.Json, api.Cbor, `[-1 ,"a"]`, []string{"\x9f", "", "", "\x20", "", "", "", "\x61a", "\xff"}},
		{api.Json, api.Cbor, `[null,2]`, []string{"\x9f", "", "", "", "\xf6", "", "", "\x02\xff"}},
		{api.Json, api.Pack, `[true,[2]]`, []string{"", "", "", "", "", "", "", "", "", "\x92\xc3\x91\x02"}},
		{api.Json, api.Pack, `null `, []string{"", "", "", "\xc0", ""}},
		{api.Cbor, api.Json, "\x82\x61a\x81\xf6", []string{"[", "", `"a"`, ",[", "null]]"}},
		{api.Cbor, api.Cbor, "\x9f\x7f\x61a\xff\xff", []string{"\x9f", "", "", "", "\x61a", "\xff"}},
		{api.Cbor, api.Pack, "\x82\x9f\xf6\xff\x19\x01\x00", []string{"\x92", "", "", "\x91\xc0", "", "", "\xcd\x01\x00"}},
		{api.Cbor, api.Pack, "\xbf\x61a\x81\xf6\xff", []string{"", "", "", "", "", "\x81\xa1a\x91\xc0"}},
		{api.Pack, api.Json, "\x81\xa1a\x91\x90", []string{"{", "", `"a"`, ":[", "[]]}"}},
		{api.Pack, api.Cbor, "\x92\xd0\x80\xc4\x01\xff", []string{"\x82", "", "\x38\x7f", "", "", "\x41\xff"}},
		{api.Pack, api.Pack, "\xdc\x00\x01\xd9\x00", []string{"", "", "\x91", "", "\xa0"}},
	} {
		s := setup(c.from, c.to)
		p := pipe.New(s)
		for k, want := range c.out {
			if out, e := p.Step(c.in[k]); out != want || e != api.OK {
				t.Fatalf("%v, %q: byte %d tells %q, %d; not %q", s, c.in, k, out, e, want)
			}
		}
		is(t, "an end", end(p), told{over: true})
		becomes(t, s, c.in, strings.Join(c.out, ""), api.OK)
	}
}

// TestP1801ReadersErrors holds that those are told, behind all that was
// written.
func TestP1801ReadersErrors(t *testing.T) {
	for _, c := range []struct {
		from      int
		in        string
		json, cbr string
		e         api.Errno
	}{
		{api.Json, "[1,]", "[1", "\x9f\x01", api.ErrForm},
		{api.Json, "[1}", "[1", "\x9f\x01", api.ErrForm},
		{api.Json, "[1x", "[", "\x9f", api.ErrForm}, // a lexer's: the number is not told
		{api.Json, "1,", "1", "\x01", api.ErrForm},
		{api.Json, "1 [", "1", "\x01", api.ErrForm},
		{api.Json, "x", "", "", api.ErrForm},
		{api.Json, "[1.", "[", "\x9f", api.ErrFloat},
		{api.Json, `["a",18446744073709551616]`, `["a"`, "\x9f\x61a", api.ErrRange},
		{api.Json, "{\"a\":\"\xff", `{"a"`, "\xbf\x61a", api.ErrUtf},
		{api.Json, `["` + strings.Repeat("t", 201), "[", "\x9f", api.ErrLarge},
		{api.Json, "[[[[[", "[[[[", "\x9f\x9f\x9f\x9f", api.ErrDeep},
		{api.Json, "[1[", "[1", "\x9f\x01", api.ErrForm},
		{api.Cbor, "\x82\x01\x1c", "[1", "\x82\x01", api.ErrForm},
		{api.Cbor, "\x9f\x01\xf9", "[1", "\x9f\x01", api.ErrFloat},
		{api.Cbor, "\xa1\x01", "{", "\xa1", api.ErrKind},
		{api.Cbor, "\x81\xc0", "[", "\x81", api.ErrKind},
		{api.Cbor, "\x00\x00", "0", "\x00", api.ErrForm},
		{api.Cbor, "\x81\x62\xc3a", "[", "\x81", api.ErrUtf},
		{api.Cbor, "\x81\x58\xc9", "[", "\x81", api.ErrLarge},
		{api.Cbor, "\x81\x9a\x00\x0f\x42\x41", "[", "\x81", api.ErrRange},
		{api.Cbor, "\x81\x81\x81\x81\x81", "[[[[", "\x81\x81\x81\x81", api.ErrDeep},
		{api.Pack, "\x92\x01\xc1", "[1", "\x82\x01", api.ErrForm},
		{api.Pack, "\x92\x01\xca", "[1", "\x82\x01", api.ErrFloat},
		{api.Pack, "\x81\x01", "{", "\xa1", api.ErrKind},
		{api.Pack, "\x91\xd4", "[", "\x81", api.ErrKind},
		{api.Pack, "\xc0\xc0", "null", "\xf6", api.ErrForm},
		{api.Pack, "\x91\xa1\xff", "[", "\x81", api.ErrUtf},
		{api.Pack, "\x91\xd9\xc9", "[", "\x81", api.ErrLarge},
		{api.Pack, "\x91\xdd\x00\x0f\x42\x41", "[", "\x81", api.ErrRange},
		{api.Pack, "\x91\x91\x91\x91\x91", "[[[[", "\x81\x81\x81\x81", api.ErrDeep},
	} {
		becomes(t, with(setup(c.from, api.Json), 4, 0), c.in, c.json, c.e)
		becomes(t, with(setup(c.from, api.Cbor), 4, 0), c.in, c.cbr, c.e)
		if got := agrees(t, with(setup(c.from, api.Pack), 4, 2000), c.in); got.e != c.e {
			t.Errorf("%q to MessagePack: %v; not %d", c.in, got, c.e)
		}
		for _, to := range formats {
			last := len(c.in) - 1
			p, _ := through(t, with(setup(c.from, to), 4, 2000), c.in[:last])
			if got := step(p, c.in[last]); got.e != c.e || !got.over {
				t.Errorf("%q to %d: the last byte tells %v; not %d", c.in, to, got, c.e)
			}
			stays(t, p, c.e)
		}
	}
}

// TestP1801WritersErrors holds that those are told, with all that was written
// ahead of them, also of what was held back.
func TestP1801WritersErrors(t *testing.T) {
	low, lowCbor := "-9223372036854775809", "\x3b\x80\x00\x00\x00\x00\x00\x00\x00"
	for _, c := range []struct {
		from    int
		in, out string
	}{
		{api.Json, "[" + low + "]", "\x91"},
		{api.Json, "[1," + low + ",2]", "\x93\x01"},
		{api.Json, `{"a":[],"b":{"c":` + low + `}} `, "\x82\xa1a\x90\xa1b\x81\xa1c"},
		{api.Json, low + " ", ""},
		{api.Json, low, ""},
		{api.Json, "[-18446744073709551616,1]", "\x92"},
		{api.Cbor, lowCbor, ""},
		{api.Cbor, "\x82\x01" + lowCbor, "\x92\x01"},
		{api.Cbor, "\xa1\x61a\x82" + lowCbor, "\x81\xa1a\x92"},
		{api.Cbor, "\x82\x9f\x01\xff" + lowCbor, "\x92\x91\x01"},
		{api.Cbor, "\x82\x9f\x01" + lowCbor + "\x02\xff", "\x92\x93\x01"},
	} {
		s := setup(c.from, api.Pack)
		becomes(t, s, c.in, c.out, api.ErrRange)
		p := pipe.New(s)
		for k := range len(c.in) {
			p.Step(c.in[k])
		}
		p.End()
		stays(t, p, api.ErrRange)
		for _, to := range []int{api.Json, api.Cbor} {
			if got := agrees(t, setup(c.from, to), c.in); got.e == api.ErrRange || got.out == "" {
				t.Errorf("%q to %d: %v", c.in, to, got)
			}
		}
	}
}

// TestP1801FirstError holds that of several errors of one byte the first one
// counts: a writer's, or the stage's, ahead of the reader's.
func TestP1801FirstError(t *testing.T) {
	low := "-9223372036854775809"
	for _, c := range []struct {
		stage   int
		in, out string
		e       api.Errno
	}{
		{2000, low + "}", "", api.ErrRange},
		{2000, low + "[", "", api.ErrRange},
		{2000, low + "x", "", api.ErrForm},       // a lexer's: the number is not told
		{2000, "[" + low + "}", "", api.ErrForm}, // the number is held back
		{1, "[5}", "", api.ErrStage},
		{1, "[5,]", "", api.ErrStage},
		{2, "[5}", "", api.ErrForm},
		{2, "[5,]", "", api.ErrForm},
		{1, "[5x", "", api.ErrForm},
		{1, "[5]", "", api.ErrStage},
		{2, "[5]", "\x91\x05", api.OK},
		{1, "[" + low + "]", "", api.ErrStage},
		{2, "[" + low + "]", "\x91", api.ErrRange},
		{2, "[[" + low + "]", "", api.ErrStage},
		// With the end of all bytes.
		{1, "[5", "", api.ErrStage},
		{2, "[5", "", api.ErrMore},
		{2, "[" + low, "", api.ErrMore},
		{1, "[" + low, "", api.ErrStage},
	} {
		becomes(t, with(setup(api.Json, api.Pack), 16, c.stage), c.in, c.out, c.e)
	}
}

// TestP1801Stage holds that parts are held back if To is MessagePack alone, up
// to Stage.
func TestP1801Stage(t *testing.T) {
	for _, c := range []struct {
		from    int
		in, out string
		size    int
	}{
		{api.Json, "[]", "\x90", 1},
		{api.Json, "[1]", "\x91\x01", 2},
		{api.Json, `["hello"]`, "\x91\xa5hello", 7},
		{api.Json, `{"a":{"b":[]}}`, "\x81\xa1a\x81\xa1b\x90", 9},
		{api.Cbor, "\x9f\xff", "\x90", 1},
		{api.Cbor, "\xbf\x61a\x41b\xff", "\x81\xa1a\xc4\x01b", 5},
		{api.Cbor, "\x82\x9f\xf6\xff\x9f\xf6\xf6\xff", "\x92\x91\xc0\x92\xc0\xc0", 3},
		{api.Cbor, "\x9f\x82\xf6\xf6\xff", "\x91\x92\xc0\xc0", 5},
		{api.Cbor, "\x82\x01\x02", "\x92\x01\x02", 0},
		{api.Pack, "\x92\x01\xa5hello", "\x92\x01\xa5hello", 0},
		{api.Json, `"hello"`, "\xa5hello", 0},
	} {
		s := setup(c.from, api.Pack)
		becomes(t, with(s, 16, c.size), c.in, c.out, api.OK)
		becomes(t, s, c.in, c.out, api.OK)
		if c.size > 0 {
			got := agrees(t, with(s, 16, c.size-1), c.in)
			if got.e != api.ErrStage {
				t.Errorf("%.99q, with one less than it takes: %v", c.in, got)
			}
			if got := agrees(t, with(s, 16, 0), c.in); got.e != api.ErrStage {
				t.Errorf("%.99q, with no room: %v", c.in, got)
			}
		}
		for _, to := range []int{api.Json, api.Cbor} {
			if got := agrees(t, with(setup(c.from, to), 16, 0), c.in); got.e != api.OK {
				t.Errorf("%.99q to %d: %v", c.in, to, got)
			}
		}
	}
	for n, want := range map[int]told{1999: {out: "\xdc\x07\xcf" + strings.Repeat("\x01", 1999)}, 2000: {e: api.ErrStage}} {
		out, e := pipe.Batch(setup(api.Json, api.Pack), "["+strings.Repeat("1,", n-1)+"1]")
		is(t, "the greatest stage", told{out: out, e: e}, want)
	}
	// What goes on ahead of the one that is too much is told.
	becomes(t, with(setup(api.Cbor, api.Pack), 16, 2), "\x84\x01\x9f\xf6\xff\x02\x9f\xf6\xf6", "\x94\x01\x91\xc0\x02", api.ErrStage)
	p, _ := through(t, with(setup(api.Json, api.Pack), 16, 3), `["a`)
	is(t, "what is too much", step(p, 'b'), told{held: 4})
	is(t, "what is too much", step(p, '"'), told{e: api.ErrStage, over: true})
	stays(t, p, api.ErrStage)
}

// TestP1801Depth holds that it is the reader's, of each format.
func TestP1801Depth(t *testing.T) {
	for depth := 1; depth <= 16; depth++ {
		for _, to := range formats {
			for from, one := range map[int]string{api.Json: "[", api.Cbor: "\x81", api.Pack: "\x91"} {
				s := with(setup(from, to), depth, 2000)
				if got := agrees(t, s, strings.Repeat(one, depth)); got.e != api.ErrMore {
					t.Errorf("%v: %v", s, got)
				}
				if got := agrees(t, s, strings.Repeat(one, depth+1)); got.e != api.ErrDeep {
					t.Errorf("%v: %v", s, got)
				}
			}
		}
	}
}

// TestP1801Limit holds that the ticks are not the way's to count.
func TestP1801Limit(t *testing.T) {
	for _, limit := range []int{0, 1, 255} {
		s := setup(api.Json, api.Cbor)
		s.Limit = limit
		becomes(t, s, "["+strings.Repeat("1,", 500)+"1]", "\x9f"+strings.Repeat("\x01", 501)+"\xff", api.OK)
	}
}

// TestP1801End holds what an end tells: a number that ends by it, ErrMore, and
// ErrState behind one that was OK.
func TestP1801End(t *testing.T) {
	for _, c := range []struct {
		from, to int
		in, out  string // out by the end alone
		e        api.Errno
	}{
		{api.Json, api.Json, "7", "7", api.OK},
		{api.Json, api.Cbor, "-7", "\x26", api.OK},
		{api.Json, api.Pack, "300", "\xcd\x01\x2c", api.OK},
		{api.Json, api.Json, "7 ", "", api.OK},
		{api.Json, api.Json, "[7]", "", api.OK},
		{api.Cbor, api.Json, "\x07", "", api.OK},
		{api.Pack, api.Json, "\x07", "", api.OK},
		{api.Json, api.Json, "", "", api.ErrMore},
		{api.Json, api.Json, " ", "", api.ErrMore},
		{api.Json, api.Json, "[", "", api.ErrMore},
		{api.Json, api.Json, "[7", "7", api.ErrMore},
		{api.Json, api.Json, "[7,8", ",8", api.ErrMore},
		{api.Json, api.Cbor, `{"a":7`, "\x07", api.ErrMore},
		{api.Json, api.Pack, "[7", "", api.ErrMore},
		{api.Json, api.Json, `"a`, "", api.ErrMore},
		{api.Json, api.Json, "nul", "", api.ErrMore},
		{api.Json, api.Json, "-", "", api.ErrForm},
		{api.Json, api.Json, "1 2", "", api.ErrForm},
		{api.Json, api.Json, "[18446744073709551616", "", api.ErrRange},
		{api.Json, api.Pack, "-9223372036854775809", "", api.ErrRange},
		{api.Json, api.Json, "-9223372036854775809", "-9223372036854775809", api.OK},
		{api.Cbor, api.Json, "", "", api.ErrMore},
		{api.Cbor, api.Cbor, "\x9f\x01", "", api.ErrMore},
		{api.Cbor, api.Pack, "\x82\x01", "", api.ErrMore},
		{api.Cbor, api.Json, "\x19\x01", "", api.ErrMore},
		{api.Pack, api.Json, "", "", api.ErrMore},
		{api.Pack, api.Cbor, "\x92\x01", "", api.ErrMore},
		{api.Pack, api.Pack, "\xa2a", "", api.ErrMore},
	} {
		p, ahead := through(t, setup(c.from, c.to), c.in)
		is(t, fmt.Sprintf("an end behind %q", c.in), end(p), told{out: c.out, e: c.e, over: true})
		if c.e == api.OK {
			stays(t, p, api.ErrState)
		} else {
			stays(t, p, c.e)
		}
		becomes(t, setup(c.from, c.to), c.in, ahead+c.out, c.e)
	}
}

// TestP1801Apart holds that two do not know of each other.
func TestP1801Apart(t *testing.T) {
	in := map[int]string{api.Json: `[[1],{"a":"bcd"}]`, api.Cbor: "\x82\x9f\x01\xff\xbf\x61a\x63bcd\xff", api.Pack: "\x92\x91\x01\x81\xa1a\xa3bcd"}
	type one struct {
		p    *pipe.Pipe
		s    api.Setup
		in   string
		out  string
		step int
	}
	var all []*one
	for k, s := range append(ways(16, 2000), ways(1, 0)...) {
		all = append(all, &one{p: pipe.New(s), s: s, in: in[s.From], step: 1 + k%3})
	}
	for more := true; more; {
		more = false
		for _, o := range all {
			for k := 0; k < o.step && len(o.in) > 0; k++ {
				out, _ := o.p.Step(o.in[0])
				o.in, o.out, more = o.in[1:], o.out+out, true
			}
		}
	}
	for _, o := range all {
		_, e := o.p.End()
		if want := model(o.s, in[o.s.From]); o.out != want.out || e != want.e {
			t.Errorf("%v: %q, %d; not %v", o.s, o.out, e, want)
		}
	}
}

// TestP1802Held holds how much is held behind each byte: by the reader, and by
// the stage if there is one.
func TestP1802Held(t *testing.T) {
	for _, c := range []struct {
		from, to int
		in       string
		held     []int
	}{
		{api.Json, api.Json, `["ab",1]`, []int{1, 1, 2, 3, 1, 1, 1, 0}},
		{api.Json, api.Cbor, `["ab",1]`, []int{1, 1, 2, 3, 1, 1, 1, 0}},
		{api.Json, api.Pack, `["ab",1]`, []int{2, 2, 3, 4, 5, 5, 5, 0}},
		{api.Json, api.Pack, `"ab" `, []int{0, 1, 2, 0, 0}},
		{api.Json, api.Pack, `{"a":[{}],"b":5} `, []int{2, 2, 3, 4, 4, 6, 8, 8, 8, 8, 8, 9, 10, 10, 10, 0, 0}},
		{api.Cbor, api.Json, "\x82\x62ab\x81\xf6", []int{1, 1, 2, 1, 2, 0}},
		{api.Cbor, api.Pack, "\x82\x62ab\x81\xf6", []int{1, 1, 2, 1, 2, 0}},
		{api.Cbor, api.Json, "\x81\x9f\x41a\x81\xf6\xff", []int{1, 2, 2, 2, 3, 2, 0}},
		{api.Cbor, api.Pack, "\x81\x9f\x41a\x81\xf6\xff", []int{1, 3, 3, 5, 7, 8, 0}},
		{api.Cbor, api.Pack, "\x9f\x7f\x61a\x61b\xff\xff", []int{2, 2, 2, 3, 3, 4, 5, 0}},
		{api.Pack, api.Json, "\x81\xa2ab\xc4\x02cd", []int{1, 1, 2, 1, 1, 1, 2, 0}},
		{api.Pack, api.Pack, "\x81\xa2ab\xc4\x02cd", []int{1, 1, 2, 1, 1, 1, 2, 0}},
	} {
		p := pipe.New(setup(c.from, c.to))
		if p.Held() != 0 || p.Over() {
			t.Fatalf("a new one holds %d, over %v", p.Held(), p.Over())
		}
		for k, want := range c.held {
			if _, e := p.Step(c.in[k]); e != api.OK || p.Held() != want || p.Held() != want || p.Over() {
				t.Fatalf("%d to %d, %q: behind byte %d: %d, holds %d, over %v; not %d", c.from, c.to, c.in, k, e, p.Held(), p.Over(), want)
			}
		}
		is(t, "an end", end(p), told{over: true})
	}
}

// TestP1802Over holds that nothing is held behind an error, or an end, of
// whichever kind, and that it is over by just these.
func TestP1802Over(t *testing.T) {
	for what, c := range map[string]struct {
		s    api.Setup
		in   string
		held int
		b    byte
		want told
	}{
		"a reader's":          {setup(api.Json, api.Json), `[["a"`, 2, 'x', told{e: api.ErrForm, over: true}},
		"a reader's in text":  {setup(api.Json, api.Pack), `[["a","b`, 7, 1, told{e: api.ErrForm, over: true}},
		"a reader's of CBOR":  {setup(api.Cbor, api.Pack), "\x9f\x81", 4, 0xf9, told{e: api.ErrFloat, over: true}},
		"a reader's of Pack":  {setup(api.Pack, api.Json), "\x92\x91", 2, 0xc1, told{e: api.ErrForm, over: true}},
		"a writer's":          {setup(api.Cbor, api.Pack), "\x82\x01\x3b\xff\xff\xff\xff\xff\xff\xff", 1, 0xff, told{e: api.ErrRange, over: true}},
		"a writer's, held":    {setup(api.Cbor, api.Pack), "\x82\x9f\x01\x3b\xff\xff\xff\xff\xff\xff\xff\xff", 5, 0xff, told{out: "\x92\x01", e: api.ErrRange, over: true}},
		"the stage's":         {with(setup(api.Cbor, api.Pack), 3, 2), "\x81\x9f\x01", 4, 0x01, told{e: api.ErrStage, over: true}},
		"the stage's in JSON": {with(setup(api.Json, api.Pack), 3, 5), `[["ab"`, 7, '[', told{e: api.ErrForm, over: true}},
	} {
		p, _ := through(t, c.s, c.in)
		if p.Held() != c.held {
			t.Errorf("%s: holds %d; not %d", what, p.Held(), c.held)
		}
		is(t, what, step(p, c.b), c.want)
		stays(t, p, c.want.e)

		p, _ = through(t, c.s, c.in)
		if _, e := p.End(); e != api.ErrMore || p.Held() != 0 || !p.Over() {
			t.Errorf("%s, but an end: %d, holds %d, over %v", what, e, p.Held(), p.Over())
		}
		stays(t, p, api.ErrMore)
	}
	// A document that is at its end may still have blanks, or be wrong.
	p, _ := through(t, setup(api.Json, api.Json), "[] \n ")
	is(t, "a blank", step(p, ' '), told{})
	is(t, "a sign", step(p, ']'), told{e: api.ErrForm, over: true})
	stays(t, p, api.ErrForm)
}

// TestP1802Batch holds that it tells all bytes, and the first error.
func TestP1802Batch(t *testing.T) {
	for _, c := range []struct {
		from, to int
		in, out  string
		e        api.Errno
	}{
		{api.Json, api.Cbor, "12", "\x0c", api.OK},
		{api.Json, api.Cbor, " [ 1 , 2 ] ", "\x9f\x01\x02\xff", api.OK},
		{api.Json, api.Cbor, "", "", api.ErrMore},
		{api.Json, api.Cbor, "[1", "\x9f\x01", api.ErrMore},
		{api.Json, api.Cbor, "[1 x,,]", "\x9f\x01", api.ErrForm},
		{api.Cbor, api.Json, "\x82\x01\xf9\xc0", "[1", api.ErrFloat},
		{api.Cbor, api.Json, "\x80\x80\xf9", "[]", api.ErrForm},
		{api.Pack, api.Json, "\x92\xc0", "[null", api.ErrMore},
		{api.Pack, api.Cbor, "\x92\xc0\xc1", "\x82\xf6", api.ErrForm},
	} {
		for range 2 {
			if out, e := pipe.Batch(setup(c.from, c.to), c.in); out != c.out || e != c.e {
				t.Errorf("%d to %d, %q: %q, %d; not %q, %d", c.from, c.to, c.in, out, e, c.out, c.e)
			}
		}
	}
	for _, s := range []api.Setup{{}, {From: 1, To: 4, Depth: 1}, {From: 1, To: 1, Depth: 17}, {From: 1, To: 1, Depth: 1, Stage: 2001}, {From: 1, To: 1, Depth: 1, Limit: 256}} {
		for _, b := range []string{"", "1", "[", "x"} {
			if out, e := pipe.Batch(s, b); out != "" || e != api.ErrArg {
				t.Errorf("%v, %q: %q, %d", s, b, out, e)
			}
		}
	}
}

// TestP1802None holds what one that New did not make tells.
func TestP1802None(t *testing.T) {
	for _, p := range []*pipe.Pipe{nil, new(pipe.Pipe), pipe.New(api.Setup{})} {
		if p.Held() != 0 || !p.Over() {
			t.Errorf("holds %d, over %v", p.Held(), p.Over())
		}
		is(t, "an end", end(p), told{e: api.ErrState, over: true})
		stays(t, p, api.ErrState)
	}
	p := new(pipe.Pipe)
	is(t, "a byte to a zero one", step(p, '1'), told{e: api.ErrState, over: true})
}

// isBeginning asks that what is written of each beginning is the beginning of what
// is written of the whole.
func isBeginning(t *testing.T, s api.Setup, b, whole string) {
	t.Helper()
	p, out := pipe.New(s), ""
	for k := range len(b) {
		bytes, _ := p.Step(b[k])
		out += bytes
		if !strings.HasPrefix(whole, out) {
			t.Fatalf("%v, %.300q: behind %d bytes %q; of the whole %q", s, b, k+1, out, whole)
		}
		if s.From == api.Json {
			continue // a number may end by an end, and go on without it
		}
		if ended, _ := pipe.Batch(s, b[:k+1]); ended != out {
			t.Fatalf("%v, %.300q: behind %d bytes %q; with an end %q", s, b, k+1, out, ended)
		}
	}
}

// TestP1803Beginnings holds it for documents of each format, and for others
// that begin as they do.
func TestP1803Beginnings(t *testing.T) {
	draw := draws(1803)
	for n := range 600 {
		s := ways(1+draw(16), draw(300))[n%9]
		b := document(draw, s.From, 1+draw(3))
		if len(b) > 600 {
			continue
		}
		whole, _ := pipe.Batch(s, b)
		isBeginning(t, s, b, whole)
		b = b[:draw(len(b)+1)]
		other, _ := pipe.Batch(s, b+pieces(s.From)[draw(20)])
		isBeginning(t, s, b, other)
	}
}

// TestP1803Errors holds it for bytes that are more or less wrong.
func TestP1803Errors(t *testing.T) {
	draw := draws(18)
	for n := range 4000 {
		s := ways(1+draw(4), draw(20))[n%9]
		b := ""
		for range 1 + draw(12) {
			b += pieces(s.From)[draw(20)]
		}
		whole, _ := pipe.Batch(s, b)
		isBeginning(t, s, b, whole)
	}
}

// TestP1803Wholes holds it for wholes that are known.
func TestP1803Wholes(t *testing.T) {
	for _, c := range []struct {
		from, to int
		in, out  string
	}{
		{api.Json, api.Json, `{"a":[1,23],"b":-4}`, `{"a":[1,23],"b":-4}`},
		{api.Json, api.Cbor, `{"a":[1,23],"b":-4}`, "\xbf\x61a\x9f\x01\x17\xff\x61b\x23\xff"},
		{api.Json, api.Pack, `{"a":[1,23],"b":-4}`, "\x82\xa1a\x92\x01\x17\xa1b\xfc"},
		{api.Json, api.Cbor, "123 ", "\x18\x7b"},
		{api.Json, api.Cbor, "123x", ""},
		{api.Json, api.Pack, "[[1],2}", ""},
		{api.Cbor, api.Json, "\x82\x9f\x19\x01\x00\xff\xf4", "[[256],false]"},
		{api.Cbor, api.Pack, "\x82\x9f\x19\x01\x00\xff\xf4", "\x92\x91\xcd\x01\x00\xc2"},
		{api.Cbor, api.Pack, "\x82\x9f\x19\x01\x00\xff\xf9", "\x92\x91\xcd\x01\x00"},
		{api.Pack, api.Json, "\x82\xa1a\xcd\x01\x00\xa1b\xc2", `{"a":256,"b":false}`},
		{api.Pack, api.Cbor, "\x82\xa1a\xcd\x01\x00\xc1", "\xa2\x61a\x19\x01\x00"},
	} {
		isBeginning(t, setup(c.from, c.to), c.in, c.out)
		if out, _ := pipe.Batch(setup(c.from, c.to), c.in); out != c.out {
			t.Errorf("%d to %d, %q: %q; not %q", c.from, c.to, c.in, out, c.out)
		}
	}
}

// TestModelDocuments holds documents of each format against the model.
func TestModelDocuments(t *testing.T) {
	draw, well := draws(17), 0
	for n := range 1500 {
		s := ways(1+draw(4), []int{0, 5, 60, 500, 2000}[draw(5)])[n%9]
		b := document(draw, s.From, 1+draw(4))
		if len(b) > 500 {
			continue
		}
		if agrees(t, s, b).e == api.OK {
			well++
		}
	}
	if well < 500 {
		t.Errorf("no more than %d documents are right", well)
	}
}

// TestModelPieces holds bytes that are more or less wrong against the model.
func TestModelPieces(t *testing.T) {
	draw, seen := draws(81), map[api.Errno]int{}
	for n := range 12_000 {
		s := ways(1+draw(4), draw(12))[n%9]
		b := ""
		for range draw(14) {
			b += pieces(s.From)[draw(20)]
		}
		seen[agrees(t, s, b).e]++
	}
	for _, e := range []api.Errno{api.OK, api.ErrForm, api.ErrMore, api.ErrDeep, api.ErrFloat, api.ErrRange, api.ErrKind, api.ErrStage} {
		if seen[e] < 5 {
			t.Errorf("error %d was told %d times", e, seen[e])
		}
	}
}

// TestThereAndBack holds that what all three formats have is what it was when
// it comes back (W5).
func TestThereAndBack(t *testing.T) {
	for _, doc := range []string{
		"null", "true", "false", "0", "-1", "18446744073709551615", "-9223372036854775808", `""`, `"é\"\\\n\u0001"`, "[]", "{}", "[[],{}]",
		`{"a":[1,-300,70000,"x"],"":{"b":null,"c":[[],[true,false]]}}`, `["` + strings.Repeat("t", 200) + `"]`, "[" + strings.Repeat("0,", 300) + "1]",
	} {
		forms := map[int]string{api.Json: doc}
		for _, to := range formats {
			for _, through := range formats {
				there, e := pipe.Batch(setup(api.Json, through), doc)
				out, e2 := pipe.Batch(setup(through, to), there)
				if e != api.OK || e2 != api.OK {
					t.Fatalf("%.99q through %d to %d: %d, %d", doc, through, to, e, e2)
				}
				back, e := pipe.Batch(setup(to, api.Json), out)
				if back != doc || e != api.OK {
					t.Errorf("%.99q through %d and %d: %q, %d", doc, through, to, back, e)
				}
				forms[to] = out
			}
		}
		for from, b := range forms {
			if back, e := pipe.Batch(setup(from, from), b); back != b || e != api.OK {
				t.Errorf("%q from %d to itself: %q, %d", b, from, back, e)
			}
		}
	}
}
