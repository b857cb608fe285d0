package hello_test

import (
	"math"
	"strings"
	"testing"

	"truchman/api"
	"truchman/hello"
	"truchman/pipe"
)

// least is a setup of which no number may be less.
var least = api.Setup{From: api.Json, To: api.Json, Depth: 1}

// number is one of a setup.
type number struct {
	what        string
	of          func(s *api.Setup) *int
	least, most int
}

var numbers = []number{
	{"From", func(s *api.Setup) *int { return &s.From }, 1, 3},
	{"To", func(s *api.Setup) *int { return &s.To }, 1, 3},
	{"Depth", func(s *api.Setup) *int { return &s.Depth }, 1, 16},
	{"Stage", func(s *api.Setup) *int { return &s.Stage }, 0, 2000},
	{"Limit", func(s *api.Setup) *int { return &s.Limit }, 0, 255},
}

// header tells the bytes of a setup's numbers, right or not.
func header(s api.Setup) string {
	return string([]byte{'T', 'R', byte(s.From), byte(s.To), byte(s.Depth), byte(s.Stage / 256), byte(s.Stage % 256), byte(s.Limit)})
}

// isRight asks the document's bounds, not pipe's.
func isRight(s api.Setup) bool {
	for _, n := range numbers {
		if got := *n.of(&s); got < n.least || got > n.most {
			return false
		}
	}
	return true
}

// puts asks what Put tells.
func puts(t *testing.T, s api.Setup, want string, may bool) {
	t.Helper()
	if b, is := hello.Put(s); b != want || is != may {
		t.Errorf("Put(%v): %q, %v; not %q, %v", s, b, is, want, may)
	}
}

// gets asks what Get tells.
func gets(t *testing.T, b string, want api.Setup, e api.Errno) {
	t.Helper()
	if s, got := hello.Get(b); s != want || got != e {
		t.Errorf("Get(%.99q): %v, %d; not %v, %d", b, s, got, want, e)
	}
}

// tells asks what Batch tells.
func tells(t *testing.T, b, want string) {
	t.Helper()
	if got := hello.Batch(b); got != want {
		t.Errorf("Batch(%.300q): %.300q; not %.300q", b, got, want)
	}
}

// TestP1901Put holds the bytes of a setup, each number at all it may be.
func TestP1901Put(t *testing.T) {
	puts(t, api.Setup{From: api.Json, To: api.Pack, Depth: 4, Stage: 258, Limit: 255}, "TR\x01\x03\x04\x01\x02\xff", true)
	puts(t, api.Setup{From: api.Pack, To: api.Cbor, Depth: 16, Stage: 2000, Limit: 7}, "TR\x03\x02\x10\x07\xd0\x07", true)
	puts(t, least, "TR\x01\x01\x01\x00\x00\x00", true)
	for _, n := range numbers {
		for x := n.least; x <= n.most; x++ {
			s := least
			*n.of(&s) = x
			puts(t, s, header(s), true)
			gets(t, header(s), s, api.OK)
		}
	}
	if b, _ := hello.Put(least); len(b) != api.Header {
		t.Errorf("%d bytes", len(b))
	}
}

// TestP1901PutWrong holds that no setup is put that is not Right, also not
// one whose bytes would be those of a right one.
func TestP1901PutWrong(t *testing.T) {
	puts(t, api.Setup{}, "", false)
	for _, n := range numbers {
		for _, x := range []int{n.least - 1, n.most + 1, -1, n.least - 256, n.least + 256, n.least + 65_536, n.least - 65_536, n.least + 1<<32, math.MinInt, math.MaxInt} {
			s := least
			if *n.of(&s) = x; !isRight(s) {
				puts(t, s, "", false)
			}
		}
	}
}

// TestP1901Get holds each byte in the place of each number.
func TestP1901Get(t *testing.T) {
	for place := 2; place < api.Header; place++ {
		for x := range 256 {
			b := []byte(header(least))
			b[place] = byte(x)
			s := api.Setup{From: int(b[2]), To: int(b[3]), Depth: int(b[4]), Stage: 256*int(b[5]) + int(b[6]), Limit: int(b[7])}
			if isRight(s) {
				gets(t, string(b), s, api.OK)
			} else {
				gets(t, string(b), api.Setup{}, api.ErrForm)
			}
		}
	}
	s := least
	for s.Stage = range 1 << 16 {
		if s.Stage <= 2000 {
			gets(t, header(s), s, api.OK)
		} else {
			gets(t, header(s), api.Setup{}, api.ErrForm)
		}
	}
}

// TestP1901GetBehind holds that what is behind a negotiation is passed by,
// and mends none.
func TestP1901GetBehind(t *testing.T) {
	right := api.Setup{From: api.Cbor, To: api.Json, Depth: 9, Stage: 513, Limit: 1}
	wrong := api.Setup{From: api.Cbor, To: api.Json, Depth: 17, Stage: 513, Limit: 1}
	for _, behind := range []string{"", "\x00", "T", "TR", "rest", header(least), strings.Repeat("\xff", 5000)} {
		gets(t, header(right)+behind, right, api.OK)
		gets(t, header(wrong)+behind, api.Setup{}, api.ErrForm)
		gets(t, "t"+header(right)[1:]+behind, api.Setup{}, api.ErrForm)
	}
}

// TestP1901GetMore holds that of what comes behind the first two bytes
// nothing is asked till all are there.
func TestP1901GetMore(t *testing.T) {
	for _, b := range []string{header(least), "TR\x01\x03\x04\x01\x02\xff", "TR\x00\x00\x00\xff\xff\x00", "TR\xff\x00\xff\x00\xff\x00", "TRTRTRTR", "TRmore, "} {
		for n := range api.Header {
			gets(t, b[:n], api.Setup{}, api.ErrMore)
		}
	}
	for x := range 256 {
		gets(t, "TR"+string([]byte{byte(x)}), api.Setup{}, api.ErrMore)
	}
}

// TestP1901GetFirst holds each first byte and each second one, with however
// few or many behind it.
func TestP1901GetFirst(t *testing.T) {
	right := header(least)
	for x := range 256 {
		first, second := []byte(right), []byte(right)
		first[0], second[1] = byte(x), byte(x)
		for n := 1; n <= len(right); n++ {
			if x != 'T' {
				gets(t, string(first[:n]), api.Setup{}, api.ErrForm)
			}
			if x != 'R' && n > 1 {
				gets(t, string(second[:n]), api.Setup{}, api.ErrForm)
			}
		}
	}
	for _, b := range []string{"R", "RT", "tr", "Tr", "tR", "TT", "\x00", " TR", " " + right, "\ufeff" + right, "T\x00R", "K", "N\x02"} {
		gets(t, b, api.Setup{}, api.ErrForm)
	}
}

// TestP1901Words holds what is told beside a document.
func TestP1901Words(t *testing.T) {
	if hello.Yes() != "K" || hello.Full() != "F" {
		t.Errorf("%q, %q", hello.Yes(), hello.Full())
	}
	for n := -1024; n <= 1024; n++ {
		low := string([]byte{byte((n + 1024) % 256)})
		if got := hello.No(api.Errno(n)); got != "N"+low {
			t.Errorf("No(%d): %q", n, got)
		}
		if got := hello.Trailer(api.Errno(n)); got != "\xff"+low {
			t.Errorf("Trailer(%d): %q", n, got)
		}
	}
	for e, low := range map[api.Errno]string{math.MaxInt: "\xff", math.MinInt: "\x00", 1<<32 + 7: "\x07", api.ErrFull: "\x0f", api.OK: "\x00"} {
		if no, trailer := hello.No(e), hello.Trailer(e); no != "N"+low || trailer != "\xff"+low {
			t.Errorf("%d: %q, %q", e, no, trailer)
		}
	}
}

// TestP1902Batch holds what a session tells of ordinary and of wrong bytes.
func TestP1902Batch(t *testing.T) {
	for _, c := range []struct {
		s       api.Setup
		in, out string
	}{
		{api.Setup{From: api.Json, To: api.Pack, Depth: 4, Stage: 40}, "[1]", "K\x91\x01\xff\x00"},
		{api.Setup{From: api.Json, To: api.Pack, Depth: 4, Stage: 40}, "[1", "K\xff\x03"},
		{api.Setup{From: api.Json, To: api.Pack, Depth: 4, Stage: 1}, "[1]", "K\xff\x0a"},
		{api.Setup{From: api.Json, To: api.Pack, Depth: 4}, "1", "K\x01\xff\x00"},
		{api.Setup{From: api.Json, To: api.Cbor, Depth: 1}, "[[1]]", "K\x9f\xff\x04"},
		{api.Setup{From: api.Json, To: api.Cbor, Depth: 2}, "[[1]]", "K\x9f\x9f\x01\xff\xff\xff\x00"},
		{api.Setup{From: api.Json, To: api.Json, Depth: 2, Limit: 255}, "[1,]zz", "K[1\xff\x02"},
		{api.Setup{From: api.Json, To: api.Json, Depth: 2, Limit: 1}, " \n", "K\xff\x03"},
		{api.Setup{From: api.Json, To: api.Json, Depth: 2}, "[1.5]", "K[\xff\x06"},
		{api.Setup{From: api.Cbor, To: api.Json, Depth: 2}, "\x82\x01\xf6", "K[1,null]\xff\x00"},
		{api.Setup{From: api.Cbor, To: api.Pack, Depth: 2}, "\x82\x01\x3b\xff\xff\xff\xff\xff\xff\xff\xff", "K\x92\x01\xff\x07"},
		{api.Setup{From: api.Pack, To: api.Cbor, Depth: 2}, "\x92\xc0\xc3", "K\x82\xf6\xf5\xff\x00"},
		{api.Setup{From: api.Pack, To: api.Cbor, Depth: 2}, "\x92\xc0\xc3\x00", "K\x82\xf6\xf5\xff\x02"},
	} {
		tells(t, header(c.s)+c.in, c.out)
		tells(t, header(c.s), "K\xff\x03")
	}
}

// TestP1902BatchNo holds what is told where no negotiation is.
func TestP1902BatchNo(t *testing.T) {
	right := header(api.Setup{From: api.Json, To: api.Pack, Depth: 4, Stage: 40})
	for n := range right {
		tells(t, right[:n], "N\x03")
	}
	for _, b := range []string{"X", "TX", "tR", "X" + right, "TR\x00\x03\x04\x00\x28\x00", "TR\x01\x04\x04\x00\x28\x00", "TR\x01\x03\x00\x00\x28\x00", "TR\x01\x03\x11\x00\x28\x00", "TR\x01\x03\x04\x07\xd1\x00"} {
		tells(t, b, "N\x02")
		tells(t, b+"[1]", "N\x02")
	}
	tells(t, "TR\x00[1]", "N\x03")
}

// model tells what a session tells that takes bytes one by one.
func model(b string) string {
	var p *pipe.Pipe
	told := ""
	for k := range len(b) {
		if p == nil {
			s, e := hello.Get(b[:k+1])
			if e == api.OK {
				p, told = pipe.New(s), hello.Yes()
			} else if e != api.ErrMore {
				return hello.No(e)
			}
			continue
		}
		out, e := p.Step(b[k])
		if told += out; e != api.OK {
			return told + hello.Trailer(e)
		}
	}
	if p == nil {
		return hello.No(api.ErrMore)
	}
	out, e := p.End()
	return told + out + hello.Trailer(e)
}

// TestP1902Model holds each beginning of bytes, and many that are hurt,
// against the model.
func TestP1902Model(t *testing.T) {
	for _, c := range []struct {
		from int
		in   string
	}{
		{api.Json, `{"a":[1,-23,"\u00e9"],"b":{"c":null}} `},
		{api.Json, `[[[[[true]]]],12345678901234567890123]`},
		{api.Cbor, "\x9f\xbf\x61a\x82\x01\x02\xff\x42hi\x7f\x61b\xff\xff"},
		{api.Pack, "\x93\x82\xa1a\x92\x01\x02\xa1b\xc4\x02hi\xd0\x80\xc0"},
	} {
		for _, to := range []int{api.Json, api.Cbor, api.Pack} {
			b := header(api.Setup{From: c.from, To: to, Depth: 4, Stage: 12}) + c.in
			for n := range len(b) + 1 {
				tells(t, b[:n], model(b[:n]))
			}
			for place := range len(b) {
				for _, x := range []byte{0, 1, '"', ',', '[', 'T', 0x81, 0x9f, 0xff} {
					hurt := b[:place] + string([]byte{x}) + b[place+1:]
					tells(t, hurt, model(hurt))
				}
			}
		}
	}
}
