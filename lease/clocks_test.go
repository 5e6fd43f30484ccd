package lease_test

import (
	"math/rand"
	"testing"

	"conclave/api"
	"conclave/lease"
)

// How a clock goes: as slow or as fast as it may, or now so, now so.
const (
	slow = iota
	fast
	anyhow
	paces
)

// goes answers what a clock of that pace shows of so much real time.
func goes(r *rand.Rand, real, rho, pace int) int {
	least, most := (real*(1000-rho)+999)/1000, real*(1000+rho)/1000
	switch pace {
	case slow:
		return least
	case fast:
		return most
	}
	return least + r.Intn(most-least+1)
}

// rising answers n times, each later than the one ahead. Some steps are such that clocks need no rounding, some are
// so small that rounding is much.
func rising(r *rand.Rand, n int) []int {
	unit := []int{1, 10, 1000}[r.Intn(3)]
	all := make([]int, n)
	for k := 1; k < n; k++ {
		all[k] = all[k-1] + unit*(1+r.Intn(8))
	}
	return all
}

// clockAt answers a fair clock's readings at these times.
func clockAt(r *rand.Rand, rho, pace int, reals []int) []lease.Reading {
	all := make([]lease.Reading, len(reals))
	all[0] = lease.Reading{Real: reals[0], Local: r.Intn(5000)}
	for k := 1; k < len(reals); k++ {
		all[k] = lease.Reading{Real: reals[k], Local: all[k-1].Local + goes(r, reals[k]-reals[k-1], rho, pace)}
	}
	return all
}

// clock answers n readings of a fair clock.
func clock(r *rand.Rand, rho, n int) []lease.Reading {
	return clockAt(r, rho, r.Intn(paces), rising(r, n))
}

// ask is what a node asked of all granters.
type ask struct {
	node, asked, length int
	granted             []bool
	ends                int  // by its node's clock, once more than half have granted it
	among               *ask // who may have answered alone when it was asked
}

// letter is an ask under way to a granter.
type letter struct {
	a  *ask
	to int
}

// world is some nodes, each with a clock and a granter, at one time.
type world struct {
	t         *testing.T
	r         *rand.Rand
	rho, now  int
	clocks    [][]lease.Reading
	granters  []*lease.Granter
	asks      []*ask
	way       []letter
	most      int // the longest lease that is asked for
	held, no  int // how often somebody might answer alone, and an ask was refused
	handsOver int // how often another one might than last
	last      int
}

// newWorld answers one of 1 to 5 nodes whose clocks are Fair.
func newWorld(t *testing.T, r *rand.Rand, steps int) *world {
	w := &world{t: t, r: r, rho: []int{0, 1, 100, 250, 500, r.Intn(501)}[r.Intn(6)], last: -1}
	reals := rising(r, steps)
	w.most = 1 + r.Intn(1+reals[steps-1]/[]int{4, 40}[r.Intn(2)])
	for range 1 + r.Intn(5) {
		c := clockAt(r, w.rho, r.Intn(paces), reals)
		fair(t, "a clock of the world", c, w.rho, true)
		w.clocks = append(w.clocks, c)
		w.granters = append(w.granters, granter(t, w.rho))
	}
	return w
}

func (w *world) local(node int) int { return w.clocks[node][w.now].Local }

// begin has a node ask all granters: at once, or so that it comes to them later.
func (w *world) begin() {
	n := w.r.Intn(len(w.clocks))
	a := &ask{node: n, asked: w.local(n), length: w.r.Intn(w.most + 1), granted: make([]bool, len(w.clocks)), among: w.holder()}
	w.asks = append(w.asks, a)
	atOnce := w.r.Intn(2) > 0
	for k := range w.clocks {
		if atOnce && w.r.Intn(10) > 0 {
			w.grant(letter{a, k})
		} else {
			w.way = append(w.way, letter{a, k})
		}
	}
}

// carry takes one of what is under way, drops it at times and keeps it for a second time at others.
func (w *world) carry() {
	if len(w.way) == 0 {
		return
	}
	k := w.r.Intn(len(w.way))
	l := w.way[k]
	if w.r.Intn(10) > 0 {
		w.way = append(w.way[:k], w.way[k+1:]...)
	}
	if w.r.Intn(10) > 0 {
		w.grant(l)
	}
}

// grant has a granter answer an ask, and the node count what it got.
func (w *world) grant(l letter) {
	a := l.a
	if !w.granters[l.to].Ask(a.node, w.local(l.to), a.length) {
		w.no++
		return
	}
	a.granted[l.to] = true
	got := 0
	for _, yes := range a.granted {
		if yes {
			got++
		}
	}
	if a.ends > 0 || 2*got <= len(w.granters) {
		return
	}
	if a.among != nil && a.among.node != a.node && w.alone(a.among) {
		w.t.Errorf("P11.3: node %d asked while %d may answer alone, and got more than half", a.node, a.among.node)
	}
	end, why := lease.Hold(a.asked, a.length, w.rho)
	if why != api.OK {
		w.t.Fatalf("Hold(%d, %d, %d): %d", a.asked, a.length, w.rho, why)
	}
	a.ends = end
}

// alone tells whether who asked a may answer alone by it.
func (w *world) alone(a *ask) bool { return a.ends > 0 && w.local(a.node) < a.ends }

// holder answers the ask by which somebody may answer alone, and looks whether another node may, too.
func (w *world) holder() *ask {
	var h *ask
	for _, a := range w.asks {
		if !w.alone(a) {
			continue
		}
		if h != nil && h.node != a.node {
			w.t.Fatalf("P11.4: %d and %d both may answer alone, by %+v and %+v, rho %d", h.node, a.node, *h, *a, w.rho)
		}
		h = a
	}
	return h
}

// look holds what is against P11.3 and P11.4.
func (w *world) look() {
	h := w.holder()
	if h == nil {
		return
	}
	w.held++
	if w.last >= 0 && w.last != h.node {
		w.handsOver++
	}
	w.last = h.node
	for node := range len(w.clocks) + 1 {
		free := 0
		for k, g := range w.granters {
			if !g.Barred(node, w.local(k)) {
				free++
			}
		}
		if node != h.node && 2*free > len(w.granters) {
			w.t.Fatalf("P11.3: while %d may answer alone %d would get %d of %d, rho %d", h.node, node, free, len(w.granters), w.rho)
		}
	}
}

// step does something at this time.
func (w *world) step() {
	switch n := w.r.Intn(100); {
	case n < 20:
		w.begin()
	case n < 21:
		k := w.r.Intn(len(w.granters))
		w.granters[k].Lost(w.local(k), w.most)
	default:
		w.carry()
	}
	w.look()
}

func TestP11_3_P11_4_WhileSomebodyMayAnswerAlone(t *testing.T) {
	r := rand.New(rand.NewSource(113))
	held, no, handsOver := 0, 0, 0
	for range 1500 {
		const steps = 200
		w := newWorld(t, r, steps)
		for w.now = range steps {
			for range r.Intn(10) {
				w.step()
			}
			w.look()
		}
		held, no, handsOver = held+w.held, no+w.no, handsOver+w.handsOver
		if t.Failed() {
			return
		}
	}
	if held < 10000 || no < 10000 || handsOver < 500 {
		t.Errorf("little happened: %d times somebody might answer alone, %d asks were refused, %d times another held", held, no, handsOver)
	}
}

// The holder's clock is as slow as may be, the granters' are as fast: the very time at which others are let in is the
// first at which the holder may not answer any more.
func TestP11_4_ToTheLast(t *testing.T) {
	for _, c := range []struct{ rho, length, real int }{
		{500, 3000, 2000}, {500, 3, 2}, {100, 1100, 1000}, {100, 11, 10}, {1, 1001, 1000}, {0, 7, 7}, {250, 5, 4}, {499, 1499, 1000},
	} {
		g := granter(t, c.rho)
		if !g.Ask(0, 50, c.length) {
			t.Fatal("the first Ask")
		}
		end, why := lease.Hold(20, c.length, c.rho)
		theirs := 50 + c.real*(1000+c.rho)/1000
		its := 20 + (c.real*(1000-c.rho)+999)/1000
		fair(t, "the granter's", at(0, 50, c.real, theirs), c.rho, true)
		fair(t, "the holder's", at(0, 20, c.real, its), c.rho, true)
		if g.Barred(1, theirs) || !g.Barred(1, theirs-1) {
			t.Errorf("rho %d: the granter bars up to %d, not %d", c.rho, g.Until(), theirs)
		}
		if why != api.OK || its < end {
			t.Errorf("rho %d: the holder may answer alone up to %d, and others are let in at %d", c.rho, end, its)
		}
		if c.real*(1000-c.rho)%1000 == 0 && its != end {
			t.Errorf("rho %d: the holder might answer alone up to %d, and may up to %d", c.rho, its, end)
		}
	}
}

// A granter that forgot lets nobody in ahead of the holder's end, though the holder's own asks are refused, too.
func TestP11_3_Lost(t *testing.T) {
	var all [3]*lease.Granter
	for k := range all {
		all[k] = granter(t, 0)
		asks(t, "the holder", all[k], 0, 10, 100, true, 110)
	}
	end, _ := lease.Hold(10, 100, 0)
	for k, now := range []int{20, 60, 109} {
		all[k].Lost(now, 100)
	}
	for now := 10; now < end; now++ {
		got := 0
		for _, g := range all {
			if g.Ask(1, now, 100) {
				got++
			}
		}
		if got > 0 {
			t.Errorf("at %d another node gets %d of 3", now, got)
		}
	}
}
