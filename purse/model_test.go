package purse_test

import (
	"math"
	"testing"

	"truchman/purse"
)

// model is a purse as the document says it: what each has that is open.
type model struct {
	budget, sessions int
	has              map[int]int
}

func (m model) may(id int) bool { return id >= 0 && id < m.sessions }

func (m model) isOpen(id int) bool {
	_, is := m.has[id]
	return is
}

func (m model) open(id int) bool {
	if !m.may(id) || m.isOpen(id) {
		return false
	}
	m.has[id] = 0
	return true
}

// set takes it on, and back if it is too much.
func (m model) set(id, n int) bool {
	if !m.isOpen(id) || n < 0 || n > most {
		return false
	}
	had := m.has[id]
	m.has[id] = n
	if m.above() > m.budget-m.sessions*reserve {
		m.has[id] = had
		return false
	}
	return true
}

func (m model) close(id int) int {
	n := m.has[id]
	delete(m.has, id)
	return n
}

// above tells what is above the reserve of all together.
func (m model) above() (n int) {
	for _, has := range m.has {
		if has > reserve {
			n += has - reserve
		}
	}
	return n
}

func (m model) total() (n int) {
	for _, has := range m.has {
		n += has
	}
	return n
}

// left tries how much more there may be, by halves.
func (m model) left(id int) int {
	if !m.isOpen(id) {
		return 0
	}
	had := m.has[id]
	may, mayNot := had, most+1
	for may+1 < mayNot {
		if mid := (may + mayNot) / 2; m.set(id, mid) {
			may = mid
		} else {
			mayNot = mid
		}
	}
	m.has[id] = had
	return may - had
}

// agrees holds all that a purse tells of itself against the model, and
// against what holds at all times.
func agrees(t *testing.T, p *purse.Purse, m model) {
	t.Helper()
	each := make([]one, m.sessions)
	for id := range each {
		each[id] = one{m.has[id], m.left(id)}
	}
	shows(t, p, m.total(), m.budget-m.sessions*reserve-m.above(), each...)
	if p.Total() > m.budget {
		t.Errorf("all have %d of %d", p.Total(), m.budget)
	}
	for id := range each {
		if has := p.Has(id); m.isOpen(id) && has+p.Left(id) < reserve {
			t.Errorf("%d has %d, and may have %d more", id, has, p.Left(id))
		}
	}
}

// draws tells numbers below n, the same ones each time.
func draws(seed uint64) func(n int) int {
	return func(n int) int {
		seed = seed*6364136223846793005 + 1442695040888963407
		return int(seed >> 33 % uint64(n))
	}
}

// amount draws what a session may want, often at the edge of what it gets.
func amount(draw func(n int) int, m model, id int) int {
	switch draw(8) {
	case 0:
		return draw(reserve + 1)
	case 1:
		return reserve - 1 + draw(3)
	case 2:
		return m.has[id] - 1 + draw(3)
	case 3, 4:
		return m.has[id] + m.left(id) - 1 + draw(3)
	case 5:
		return draw(most + 2)
	case 6:
		return -draw(3)
	}
	return math.MaxInt - draw(2*reserve)
}

// TestP2002Model holds long ways of calls against the model.
func TestP2002Model(t *testing.T) {
	for seed := range 60 {
		draw := draws(uint64(seed))
		n := 1 + seed%sessions
		budget := []int{n * reserve, n*reserve + 1, n*reserve + draw(500), n*reserve + draw(most-n*reserve+1), most}[draw(5)]
		p, m := purse.New(budget, n), model{budget, n, map[int]int{}}
		for range 500 {
			id := draw(n+2) - 1
			switch draw(8) {
			case 0, 1:
				opens(t, p, id, m.open(id))
			case 2:
				closes(t, p, id, m.close(id))
			default:
				much := amount(draw, m, id)
				sets(t, p, id, much, m.set(id, much))
			}
			agrees(t, p, m)
		}
		if t.Failed() {
			t.Fatalf("seed %d", seed)
		}
	}
}

// TestP2002Own holds, at each place of long ways, that an open session is not
// refused what is its own.
func TestP2002Own(t *testing.T) {
	for seed := range 20 {
		draw := draws(uint64(1000 + seed))
		n := 1 + draw(sessions)
		p := opened(t, n*reserve+draw(2000), n)
		for range 200 {
			id := draw(n)
			p.Set(id, draw(3*reserve))
			own := draw(n)
			had := p.Has(own)
			sets(t, p, own, reserve, true)
			sets(t, p, own, draw(reserve+1), true)
			sets(t, p, own, had, true)
		}
	}
}
