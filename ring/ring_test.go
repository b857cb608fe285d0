package ring_test

import (
	"math"
	"strings"
	"testing"

	"truchman/ring"
)

// filled makes a ring whose bytes begin at the cell of that number.
func filled(t *testing.T, room, first int, b string) *ring.Ring {
	t.Helper()
	r := ring.New(room)
	if pad := strings.Repeat("-", first); r.Put(pad) != first || r.Take(first) != pad {
		t.Fatalf("a ring for %d does not get to cell %d", room, first)
	}
	if n := r.Put(b); n != len(b) {
		t.Fatalf("a ring for %d takes %d of %d bytes, begun at cell %d", room, n, len(b), first)
	}
	return r
}

// holds asks for all that a ring tells of itself.
func holds(t *testing.T, what string, r *ring.Ring, b string, room int) {
	t.Helper()
	if r.Len() != len(b) || r.Room() != room || r.Peek(math.MaxInt) != b {
		t.Errorf("%s: has %q (%d), room for %d; not %q, %d", what, r.Peek(math.MaxInt), r.Len(), r.Room(), b, room)
	}
}

// alphabet has every byte once: text or not is nothing to a ring.
func alphabet() string {
	var b strings.Builder
	for k := range 256 {
		b.WriteByte(byte(k))
	}
	return b.String()
}

func TestP201New(t *testing.T) {
	cases := []struct{ room, want int }{
		{0, 0}, {1, 1}, {2, 2}, {64, 64}, {9_999, 9_999}, {10_000, 10_000},
		{10_001, 10_000}, {1 << 40, 10_000}, {math.MaxInt, 10_000},
		{-1, 0}, {-10_000, 0}, {math.MinInt, 0},
	}
	for _, c := range cases {
		r := ring.New(c.room)
		if r.Len() != 0 || r.Room() != c.want {
			t.Errorf("New(%d) has %d, room for %d; not 0, %d", c.room, r.Len(), r.Room(), c.want)
		}
		if n := r.Put(strings.Repeat("a", 10_005)); n != c.want {
			t.Errorf("New(%d) takes %d, not %d", c.room, n, c.want)
		}
		holds(t, "filled", r, strings.Repeat("a", c.want), 0)
	}
}

func TestP201Example(t *testing.T) {
	r := ring.New(3)
	if a, b, c := r.Put("abcd"), r.Take(2), r.Put("xy"); a != 3 || b != "ab" || c != 2 {
		t.Errorf("told %d, %q, %d; not 3, ab, 2", a, b, c)
	}
	holds(t, "behind it", r, "cxy", 0)
}

func TestP201PutTakesTheFront(t *testing.T) {
	const more = "uvwxyz"
	for room := range 6 {
		for first := range room {
			for had := 0; had <= room; had++ {
				for n := range len(more) + 1 {
					r := filled(t, room, first, "abcdef"[:had])
					want := min(n, room-had)
					if got := r.Put(more[:n]); got != want {
						t.Errorf("room %d, cell %d, %d there: Put(%q) = %d, not %d", room, first, had, more[:n], got, want)
					}
					holds(t, "behind Put", r, "abcdef"[:had]+more[:want], room-had-want)
				}
			}
		}
	}
}

// counts are Take's and Peek's n: none, some, all, more than all.
func counts() []int {
	return []int{math.MinInt, -7, -1, 0, 1, 2, 3, 4, 5, 6, 7, 100, math.MaxInt - 1, math.MaxInt}
}

func TestP201TakeAndPeek(t *testing.T) {
	const room = 5
	for first := range room {
		for had := 0; had <= room; had++ {
			for _, n := range counts() {
				b := "abcde"[:had]
				k := min(max(n, 0), had)
				r := filled(t, room, first, b)
				if got := r.Peek(n); got != b[:k] {
					t.Errorf("cell %d: Peek(%d) of %q = %q, not %q", first, n, b, got, b[:k])
				}
				holds(t, "behind Peek", r, b, room-had)
				if got := r.Take(n); got != b[:k] {
					t.Errorf("cell %d: Take(%d) of %q = %q, not %q", first, n, b, got, b[:k])
				}
				holds(t, "behind Take", r, b[k:], room-had+k)
			}
		}
	}
}

func TestP201Clear(t *testing.T) {
	const room = 4
	for first := range room {
		for had := 0; had <= room; had++ {
			r := filled(t, room, first, "abcd"[:had])
			if n := r.Clear(); n != had {
				t.Errorf("cell %d: Clear of %d = %d", first, had, n)
			}
			holds(t, "behind Clear", r, "", room)
			if n := r.Clear(); n != 0 {
				t.Errorf("Clear of a clear one = %d", n)
			}
			if n := r.Put("vwxyz"); n != room {
				t.Errorf("Put behind Clear = %d, not %d", n, room)
			}
			holds(t, "filled again", r, "vwxy", 0)
		}
	}
}

func TestP201EveryByte(t *testing.T) {
	all := alphabet()
	for _, first := range []int{0, 1, 128, 255} {
		r := filled(t, 256, first, all)
		if got := r.Take(256); got != all {
			t.Errorf("from cell %d on, the bytes are not what they were: %q", first, got)
		}
	}
}

// TestP201LongWay goes a ring round many times, beside a text that does the same.
func TestP201LongWay(t *testing.T) {
	all := alphabet()
	for _, room := range []int{1, 2, 3, 7, 64, 255, 10_000} {
		r, model, seed := ring.New(room), "", uint32(room)
		draw := func(n int) int {
			seed = seed*1_664_525 + 1_013_904_223
			return int(seed>>8) % n
		}
		for range 4_000 {
			at, n := draw(200), draw(56)
			switch draw(9) {
			case 0, 1, 2, 3:
				want := min(n, room-len(model))
				if got := r.Put(all[at : at+n]); got != want {
					t.Fatalf("room %d: Put of %d = %d, not %d", room, n, got, want)
				}
				model += all[at : at+want]
			case 4, 5, 6:
				want := model[:min(n, len(model))]
				if got := r.Take(n); got != want {
					t.Fatalf("room %d: Take(%d) = %q, not %q", room, n, got, want)
				}
				model = model[len(want):]
			case 7:
				if want := model[:min(n, len(model))]; r.Peek(n) != want {
					t.Fatalf("room %d: Peek(%d) = %q, not %q", room, n, r.Peek(n), want)
				}
			case 8:
				if at > 20 {
					continue // seldom, so that the great ones get full
				}
				if got := r.Clear(); got != len(model) {
					t.Fatalf("room %d: Clear = %d, not %d", room, got, len(model))
				}
				model = ""
			}
			holds(t, "on the way", r, model, room-len(model))
		}
	}
}

// TestP201AnswersStay holds that what was told does not turn with what comes later.
func TestP201AnswersStay(t *testing.T) {
	r := ring.New(4)
	r.Put("abcd")
	peeked, taken := r.Peek(4), r.Take(4)
	r.Put("wxyz")
	if peeked != "abcd" || taken != "abcd" {
		t.Errorf("told abcd twice, now %q and %q", peeked, taken)
	}
}

func TestP201EachItsOwn(t *testing.T) {
	a, b := ring.New(3), ring.New(3)
	a.Put("abc")
	holds(t, "the other one", b, "", 3)
	b.Put("xy")
	holds(t, "the one", a, "abc", 0)
	holds(t, "the other one", b, "xy", 1)
}

func TestP201NilAndZero(t *testing.T) {
	for what, r := range map[string]*ring.Ring{"nil": nil, "zero": new(ring.Ring), "New(0)": ring.New(0)} {
		for _, b := range []string{"", "a", "abc"} {
			if n := r.Put(b); n != 0 {
				t.Errorf("%s: Put(%q) = %d, not 0", what, b, n)
			}
		}
		for _, n := range counts() {
			if a, b := r.Take(n), r.Peek(n); a != "" || b != "" {
				t.Errorf("%s: Take(%d), Peek = %q, %q, not empty", what, n, a, b)
			}
		}
		if n := r.Clear(); n != 0 {
			t.Errorf("%s: Clear = %d, not 0", what, n)
		}
		holds(t, what, r, "", 0)
	}
}
