package queue_test

import (
	"math"
	"strings"
	"testing"

	"truchman/queue"
)

// filled makes a queue of these chunks.
func filled(chunks ...string) *queue.Queue {
	q := &queue.Queue{}
	for _, b := range chunks {
		q.Add(b)
	}
	return q
}

// holds asks for all that a queue tells of itself.
func holds(t *testing.T, what string, q *queue.Queue, b string, chunks int) {
	t.Helper()
	if q.All() != b || q.Len() != len(b) || q.Chunks() != chunks {
		t.Errorf("%s: has %q (%d) in %d chunks; not %q, %d", what, q.All(), q.Len(), q.Chunks(), b, chunks)
	}
}

// alphabet has every byte once: text or not is nothing to a queue.
func alphabet() string {
	var b strings.Builder
	for k := range 256 {
		b.WriteByte(byte(k))
	}
	return b.String()
}

// model is a queue as a list of what is left of its chunks.
type model []string

func (m model) all() string { return strings.Join(m, "") }

// from has what is left behind the first n bytes, n from 0 to all.
func (m model) from(n int) (left model) {
	for _, b := range m {
		k := min(n, len(b))
		n -= k
		if b[k:] != "" {
			left = append(left, b[k:])
		}
	}
	return left
}

// to has the first n bytes, n from 0 to all.
func (m model) to(n int) (left model) {
	for _, b := range m {
		k := min(n, len(b))
		n -= k
		if k > 0 {
			left = append(left, b[:k])
		}
	}
	return left
}

// shapes are chunks of many sizes: none, one, single bytes, great ones between.
func shapes() []model {
	return []model{
		{}, {"a"}, {"ab"}, {"abc"}, {"a", "b"}, {"ab", "c"}, {"a", "bc"}, {"ab", "cd"},
		{"a", "b", "c", "d"}, {"abc", "d", "ef"}, {"a", "bcd", "e"}, {"ab", "cde", "f"},
		{"\x00", "\xff\x00", "é"},
	}
}

// counts are Take's and Cut's n: below 0, none, some, all, more than all.
func counts() []int {
	return []int{math.MinInt, math.MinInt + 1, -7, -1, 0, 1, 2, 3, 4, 5, 6, 7, 100, math.MaxInt - 1, math.MaxInt}
}

func TestP301ZeroIsEmpty(t *testing.T) {
	var q queue.Queue
	holds(t, "zero", &q, "", 0)
	if b, ok := q.Next(); b != 0 || ok {
		t.Errorf("Next of an empty one = %d, %t", b, ok)
	}
	for _, n := range counts() {
		if b := q.Take(n); b != "" {
			t.Errorf("Take(%d) of an empty one = %q", n, b)
		}
		if k := q.Cut(n); k != 0 {
			t.Errorf("Cut(%d) of an empty one = %d", n, k)
		}
	}
	q.Add("ab")
	holds(t, "begun", &q, "ab", 1)
}

func TestP301Example(t *testing.T) {
	q := filled("ab", "c")
	if b, n := q.Take(2), q.Chunks(); b != "ab" || n != 1 {
		t.Errorf("told %q, %d; not ab, 1", b, n)
	}
}

func TestP301Add(t *testing.T) {
	for _, m := range shapes() {
		holds(t, "filled", filled(m...), m.all(), len(m))
	}
	q := &queue.Queue{}
	for k, b := range []string{"", "ab", "", "", "c", ""} {
		q.Add(b)
		holds(t, "on the way", q, [...]string{"", "ab", "ab", "ab", "abc", "abc"}[k], [...]int{0, 1, 1, 1, 2, 2}[k])
	}
}

func TestP301Next(t *testing.T) {
	for _, m := range shapes() {
		q, all := filled(m...), m.all()
		for k := range len(all) {
			if b, ok := q.Next(); b != all[k] || !ok {
				t.Errorf("%q: Next = %d, %t, not %d", m, b, ok, all[k])
			}
			holds(t, "behind Next", q, all[k+1:], len(m.from(k+1)))
		}
		for range 2 {
			if b, ok := q.Next(); b != 0 || ok {
				t.Errorf("%q: Next at the end = %d, %t", m, b, ok)
			}
		}
		q.Add("xy")
		holds(t, "filled again", q, "xy", 1)
	}
}

func TestP301Take(t *testing.T) {
	for _, m := range shapes() {
		for _, n := range counts() {
			q, all := filled(m...), m.all()
			k := min(max(n, 0), len(all))
			if b := q.Take(n); b != all[:k] {
				t.Errorf("%q: Take(%d) = %q, not %q", m, n, b, all[:k])
			}
			holds(t, "behind Take", q, all[k:], len(m.from(k)))
			q.Add("xy")
			holds(t, "filled again", q, all[k:]+"xy", len(m.from(k))+1)
		}
	}
}

func TestP301Cut(t *testing.T) {
	for _, m := range shapes() {
		for _, n := range counts() {
			q, all := filled(m...), m.all()
			k := min(max(n, 0), len(all))
			if went := q.Cut(n); went != len(all)-k {
				t.Errorf("%q: Cut(%d) = %d, not %d", m, n, went, len(all)-k)
			}
			holds(t, "behind Cut", q, all[:k], len(m.to(k)))
			q.Add("xy")
			holds(t, "filled again", q, all[:k]+"xy", len(m.to(k))+1)
		}
	}
}

// TestP301ChunkFromBothEnds holds that a chunk counts as long as a byte is left in its middle.
func TestP301ChunkFromBothEnds(t *testing.T) {
	q := filled("a", "bcdef", "g")
	q.Take(3)
	q.Cut(2)
	holds(t, "the middle", q, "de", 1)
	q.Cut(1)
	holds(t, "one byte", q, "d", 1)
	if b, ok := q.Next(); b != 'd' || !ok {
		t.Errorf("Next = %d, %t, not d", b, ok)
	}
	holds(t, "none", q, "", 0)
}

func TestP301EveryByte(t *testing.T) {
	all := alphabet()
	if b := filled(all[:100], all[100:101], all[101:]).Take(256); b != all {
		t.Errorf("the bytes are not what they were: %q", b)
	}
	q := filled(all)
	for k := range 256 {
		if b, ok := q.Next(); int(b) != k || !ok {
			t.Errorf("Next = %d, %t, not %d", b, ok, k)
		}
	}
}

// TestP301AnswersStay holds that what was told does not turn with what comes later.
func TestP301AnswersStay(t *testing.T) {
	q := filled("abc", "def")
	all, taken := q.All(), q.Take(2)
	q.Cut(1)
	q.Add("wxyz")
	if all != "abcdef" || taken != "ab" {
		t.Errorf("told abcdef and ab, now %q and %q", all, taken)
	}
	holds(t, "behind it", q, "cwxyz", 2)
}

func TestP301EachItsOwn(t *testing.T) {
	const b = "abc"
	one, other := filled(b), filled(b)
	one.Cut(1)
	one.Add("z")
	holds(t, "the one", one, "az", 2)
	holds(t, "the other one", other, "abc", 1)
}

// TestP301LongWay goes a queue a long way, beside a model that does the same.
func TestP301LongWay(t *testing.T) {
	all := alphabet()
	for seed := range uint32(8) {
		q, m := &queue.Queue{}, model{}
		draw := func(n int) int {
			seed = seed*1_664_525 + 1_013_904_223
			return int(seed>>8) % n
		}
		for range 3_000 {
			at, n := draw(200), draw(56)
			switch draw(8) {
			case 0, 1, 2:
				q.Add(all[at : at+n])
				if n > 0 {
					m = append(m, all[at:at+n])
				}
			case 3, 4:
				want := m.all()
				want = want[:min(n, len(want))]
				if b := q.Take(n); b != want {
					t.Fatalf("Take(%d) = %q, not %q", n, b, want)
				}
				m = m.from(len(want))
			case 5, 6:
				want := m.all()
				if b, ok := q.Next(); ok != (want != "") || ok && b != want[0] {
					t.Fatalf("Next = %d, %t, of %q", b, ok, want)
				}
				m = m.from(min(1, len(want)))
			case 7:
				had := len(m.all())
				k := max(had-n, 0)
				if went := q.Cut(k); went != had-k {
					t.Fatalf("Cut(%d) = %d, not %d", k, went, had-k)
				}
				m = m.to(k)
			}
			holds(t, "on the way", q, m.all(), len(m))
		}
	}
}

// TestP301ManyBytes holds that the way through a great queue is not gone again for each byte or chunk.
func TestP301ManyBytes(t *testing.T) {
	const many = 300_000
	q := &queue.Queue{}
	for range many {
		q.Add("ab")
	}
	for k := range many {
		if b, ok := q.Next(); b != "ab"[k%2] || !ok {
			t.Fatalf("byte %d: Next = %d, %t", k, b, ok)
		}
	}
	for k := range many {
		if went := q.Cut(many - 1 - k); went != 1 {
			t.Fatalf("Cut(%d) = %d, not 1", many-1-k, went)
		}
	}
	holds(t, "at the end", q, "", 0)
}

func TestP301Nil(t *testing.T) {
	var q *queue.Queue
	for _, b := range []string{"", "a", "abc"} {
		q.Add(b)
		holds(t, "nil", q, "", 0)
	}
	if b, ok := q.Next(); b != 0 || ok {
		t.Errorf("Next of a nil one = %d, %t", b, ok)
	}
	for _, n := range counts() {
		if b, k := q.Take(n), q.Cut(n); b != "" || k != 0 {
			t.Errorf("of a nil one Take(%d), Cut = %q, %d", n, b, k)
		}
	}
}
