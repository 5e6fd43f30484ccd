package lease_test

import (
	"testing"

	"conclave/lease"
)

// act is a call of Ask (of a node) or of Lost.
type act struct {
	lost              bool
	node, now, length int
}

// model is a granter as the chapter's words tell it: all that it took, in order.
type model []act

func (m model) until() int {
	most := 0
	for _, a := range m {
		most = max(most, a.now+a.length)
	}
	return most
}

func (m model) barred(node, now int) bool {
	if len(m) == 0 || now >= m.until() {
		return false
	}
	last := m[len(m)-1]
	return last.lost || last.node != node
}

// takes tells whether the granter must take a.
func (m model) takes(a act) bool {
	if a.now < 0 || a.length < 0 {
		return false
	}
	return a.lost || a.node >= 0 && !m.barred(a.node, a.now)
}

// acts answers every act of few nodes, times and lengths, wrong ones too.
func acts() []act {
	var all []act
	for _, node := range []int{-1, 0, 1} {
		for now := -1; now < 4; now++ {
			for length := -1; length < 3; length++ {
				all = append(all, act{node: node, now: now, length: length})
				if node == 0 {
					all = append(all, act{lost: true, now: now, length: length})
				}
			}
		}
	}
	return all
}

// same looks whether g is as m is.
func same(t *testing.T, g *lease.Granter, m model, row []act) {
	t.Helper()
	if g.Until() != m.until() {
		t.Fatalf("%+v: Until: %d; not %d", row, g.Until(), m.until())
	}
	for node := -1; node < 3; node++ {
		for now := -1; now < 7; now++ {
			if g.Barred(node, now) != m.barred(node, now) {
				t.Fatalf("%+v: Barred(%d, %d): %v", row, node, now, g.Barred(node, now))
			}
		}
	}
}

// play does row at a new granter and looks whether the model says the same.
func play(t *testing.T, row []act) {
	t.Helper()
	g := granter(t, 0)
	var m model
	for _, a := range row {
		takes := m.takes(a)
		if a.lost {
			g.Lost(a.now, a.length)
		} else if got := g.Ask(a.node, a.now, a.length); got != takes {
			t.Fatalf("%+v: Ask(%d, %d, %d): %v", row, a.node, a.now, a.length, got)
		}
		if takes {
			m = append(m, a)
		}
	}
	same(t, g, m, row)
}

func TestP11_2_AllRowsOfThree(t *testing.T) {
	all := acts()
	for _, a := range all {
		play(t, []act{a})
		for _, b := range all {
			play(t, []act{a, b})
			for _, c := range all {
				play(t, []act{a, b, c})
			}
		}
	}
}
