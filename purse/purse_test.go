package purse_test

import (
	"math"
	"testing"

	"truchman/purse"
)

// The document's numbers.
const (
	reserve  = 700
	most     = 40_000
	sessions = 8
)

// noIDs are of no session, however many there are.
var noIDs = []int{-1, -2, -7, 8, 9, 100, 255, 256, 1 << 32, -1 << 32, math.MinInt, math.MaxInt}

// opened makes a purse of which all sessions are open.
func opened(t *testing.T, budget, n int) *purse.Purse {
	t.Helper()
	p := purse.New(budget, n)
	for id := range n {
		opens(t, p, id, true)
	}
	return p
}

// has makes such a one of which each session has so much.
func has(t *testing.T, budget int, each ...int) *purse.Purse {
	t.Helper()
	p := opened(t, budget, len(each))
	for id, n := range each {
		sets(t, p, id, n, true)
	}
	return p
}

func opens(t *testing.T, p *purse.Purse, id int, want bool) {
	t.Helper()
	if got := p.Open(id); got != want {
		t.Errorf("Open(%d): %v", id, got)
	}
}

func sets(t *testing.T, p *purse.Purse, id, n int, want bool) {
	t.Helper()
	if got := p.Set(id, n); got != want {
		t.Errorf("Set(%d, %d): %v", id, n, got)
	}
}

func closes(t *testing.T, p *purse.Purse, id, want int) {
	t.Helper()
	if got := p.Close(id); got != want {
		t.Errorf("Close(%d): %d, not %d", id, got, want)
	}
}

// one is what a purse tells of one session.
type one struct{ has, left int }

// shows asks for all that a purse tells.
func shows(t *testing.T, p *purse.Purse, total, shared int, each ...one) {
	t.Helper()
	if p.Total() != total || p.Shared() != shared {
		t.Errorf("all have %d, %d are free; not %d, %d", p.Total(), p.Shared(), total, shared)
	}
	for id, want := range each {
		if got := (one{p.Has(id), p.Left(id)}); got != want {
			t.Errorf("%d: has and left %v; not %v", id, got, want)
		}
	}
	for _, id := range append([]int{len(each)}, noIDs...) {
		if p.Has(id) != 0 || p.Left(id) != 0 {
			t.Errorf("%d: has %d, left %d", id, p.Has(id), p.Left(id))
		}
	}
}

// TestP2001New holds each count of sessions at the ends of what its budget
// may be.
func TestP2001New(t *testing.T) {
	for n := -3; n <= 2*sessions; n++ {
		for _, budget := range []int{math.MinInt, -700, -1, 0, 1, 699, 700, n*reserve - 1, n * reserve, n*reserve + 1, 5600, most - 1, most, most + 1, 2 * most, 1 << 32, math.MaxInt} {
			may := n >= 1 && n <= sessions && budget >= n*reserve && budget <= most
			p := purse.New(budget, n)
			if (p != nil) != may {
				t.Errorf("New(%d, %d): %v", budget, n, p != nil)
			}
			if may {
				shows(t, p, 0, budget-n*reserve, make([]one, n)...)
			}
		}
	}
	for _, n := range []int{math.MinInt, -256, 256, 257, 1 << 32, 1<<32 + 1, 1 << 62, math.MaxInt, math.MaxInt/reserve + 1, math.MinInt / reserve} {
		for _, budget := range []int{700, 1400, most} {
			if purse.New(budget, n) != nil {
				t.Errorf("New(%d, %d): one", budget, n)
			}
		}
	}
}

// TestP2001NewOwn holds that one purse is nothing to another.
func TestP2001NewOwn(t *testing.T) {
	a, b := opened(t, 1500, 2), opened(t, 1500, 2)
	sets(t, a, 0, 800, true)
	shows(t, b, 0, 100, one{0, 800}, one{0, 800})
	closes(t, b, 0, 0)
	shows(t, a, 800, 0, one{800, 0}, one{0, 700})
}

// TestP2001Open holds which ids may be opened, and when.
func TestP2001Open(t *testing.T) {
	for n := 1; n <= sessions; n++ {
		p := purse.New(most, n)
		for id := n - 1; id >= 0; id-- {
			opens(t, p, id, true)
			opens(t, p, id, false)
		}
		for id := n; id <= 2*sessions; id++ {
			opens(t, p, id, false)
		}
		for _, id := range noIDs {
			opens(t, p, id, false)
		}
	}
	p := has(t, 1500, 800, 3)
	opens(t, p, 0, false)
	opens(t, p, 1, false)
	shows(t, p, 803, 0, one{800, 0}, one{3, 697})
}

// TestP2001Set holds what may be had, and that what may not changes nothing.
func TestP2001Set(t *testing.T) {
	p := opened(t, 1500, 2)
	sets(t, p, 0, 800, true)
	for _, n := range []int{801, 802, 1500, most, math.MaxInt - 700, math.MaxInt - 699, math.MaxInt, -1, -700, -800, math.MinInt, math.MinInt + 700} {
		sets(t, p, 0, n, false)
		shows(t, p, 800, 0, one{800, 0}, one{0, 700})
	}
	sets(t, p, 1, 701, false)
	sets(t, p, 1, 700, true)
	shows(t, p, 1500, 0, one{800, 0}, one{700, 0})
	sets(t, p, 0, 800, true)
	sets(t, p, 0, 750, true)
	shows(t, p, 1450, 50, one{750, 50}, one{700, 50})
	sets(t, p, 1, 751, false)
	sets(t, p, 1, 750, true)
	sets(t, p, 0, 751, false)
	shows(t, p, 1500, 0, one{750, 0}, one{750, 0})
	sets(t, p, 0, 0, true)
	shows(t, p, 750, 50, one{0, 750}, one{750, 50})
}

// TestP2001SetReserve holds that what a session has not of its own is no
// other's, whether it is opened or not.
func TestP2001SetReserve(t *testing.T) {
	for n := 2; n <= sessions; n++ {
		p := purse.New(n*reserve+60, n)
		opens(t, p, 0, true)
		sets(t, p, 0, 761, false)
		sets(t, p, 0, 760, true)
		for id := 1; id < n; id++ {
			opens(t, p, id, true)
			sets(t, p, id, 701, false)
			sets(t, p, 0, 761, false)
			sets(t, p, id, 700, true)
			sets(t, p, 0, 761, false)
		}
		if p.Total() != n*reserve+60 {
			t.Errorf("%d sessions have %d", n, p.Total())
		}
	}
}

// TestP2001SetNone holds that none is set that is not open.
func TestP2001SetNone(t *testing.T) {
	p := purse.New(most, 3)
	opens(t, p, 1, true)
	sets(t, p, 1, 1000, true)
	for _, id := range append([]int{0, 2, 3, 4, 5, 6, 7}, noIDs...) {
		for _, n := range []int{-1, 0, 1, 700, 701, math.MaxInt} {
			sets(t, p, id, n, false)
		}
		closes(t, p, id, 0)
	}
	shows(t, p, 1000, most-3*reserve-300, one{}, one{1000, most - 3*reserve - 300}, one{})
	closes(t, p, 1, 1000)
	sets(t, p, 1, 0, false)
	shows(t, p, 0, most-3*reserve, one{}, one{}, one{})
}

// TestP2001Close holds that all is given back, just once, and that one opened
// again has nothing.
func TestP2001Close(t *testing.T) {
	for _, n := range []int{0, 1, 699, 700, 701, 799, 800} {
		p := has(t, 1500, n, 650)
		closes(t, p, 0, n)
		shows(t, p, 650, 100, one{}, one{650, 150})
		closes(t, p, 0, 0)
		opens(t, p, 0, true)
		shows(t, p, 650, 100, one{0, 800}, one{650, 150})
		closes(t, p, 0, 0)
		opens(t, p, 0, true)
		sets(t, p, 0, 800, true)
		closes(t, p, 1, 650)
		shows(t, p, 800, 0, one{800, 0}, one{})
	}
	p := has(t, 1500, 5, 6)
	for _, id := range append([]int{2}, noIDs...) {
		closes(t, p, id, 0)
	}
	shows(t, p, 11, 100, one{5, 795}, one{6, 794})
}

// TestP2001Left holds, for what two sessions of one purse have, how much more
// they may have: just so much, and no more.
func TestP2001Left(t *testing.T) {
	const rest = 20
	for _, a := range []int{0, 1, 350, 699, 700, 701, 710, 719, 720} {
		for _, b := range []int{0, 2, 699, 700, 701, 705, 710, 720} {
			over := max(a-reserve, 0) + max(b-reserve, 0)
			if over > rest {
				continue
			}
			free := rest - over
			leftA, leftB := max(reserve-a, 0)+free, max(reserve-b, 0)+free
			p := has(t, 2*reserve+rest, a, b)
			shows(t, p, a+b, free, one{a, leftA}, one{b, leftB})
			sets(t, p, 0, a+leftA+1, false)
			sets(t, p, 1, b+leftB+1, false)
			shows(t, p, a+b, free, one{a, leftA}, one{b, leftB})
			sets(t, p, 0, a+leftA, true)
			shows(t, p, a+leftA+b, 0, one{a + leftA, 0}, one{b, max(reserve-b, 0)})
		}
	}
}

// TestP2001Nobody holds that a nil purse has nothing, and so a zero one.
func TestP2001Nobody(t *testing.T) {
	for _, p := range []*purse.Purse{nil, purse.New(0, 0), new(purse.Purse)} {
		for _, id := range append([]int{0, 1, 7}, noIDs...) {
			opens(t, p, id, false)
			sets(t, p, id, 0, false)
			sets(t, p, id, 1, false)
			closes(t, p, id, 0)
		}
		shows(t, p, 0, 0)
	}
}

// TestP2002Reserve holds that a session has what is its own, however much the
// others took ahead of it, in each order.
func TestP2002Reserve(t *testing.T) {
	for n := 1; n <= sessions; n++ {
		for _, budget := range []int{n * reserve, n*reserve + 1, n*reserve + 999, most} {
			for last := range n {
				p := opened(t, budget, n)
				for id := range n {
					if id != last {
						sets(t, p, id, p.Left(id), true)
					}
				}
				sets(t, p, last, reserve+1, n == 1 && budget > reserve)
				for k := range reserve + 1 {
					sets(t, p, last, k, true)
				}
				if p.Total() > budget {
					t.Errorf("%d of %d have %d", n, budget, p.Total())
				}
			}
		}
	}
}
