package lease_test

import (
	"fmt"
	"math"
	"testing"

	"conclave/api"
	"conclave/lease"
)

// granter answers a new one.
func granter(t *testing.T, rho int) *lease.Granter {
	t.Helper()
	g, why := lease.New(rho)
	if g == nil || why != api.OK {
		t.Fatalf("New(%d): %v, %d", rho, g != nil, why)
	}
	return g
}

// asks looks whether Ask answers want, and whether Until is until then.
func asks(t *testing.T, what string, g *lease.Granter, node, now, length int, want bool, until int) {
	t.Helper()
	if got := g.Ask(node, now, length); got != want {
		t.Errorf("%s: Ask(%d, %d, %d): %v", what, node, now, length, got)
	}
	lasts(t, what, g, until)
}

// lasts looks whether Until answers want.
func lasts(t *testing.T, what string, g *lease.Granter, want int) {
	t.Helper()
	if got := g.Until(); got != want {
		t.Errorf("%s: Until: %d; not %d", what, got, want)
	}
}

// barred looks whether Barred answers want.
func barred(t *testing.T, what string, g *lease.Granter, node, now int, want bool) {
	t.Helper()
	if got := g.Barred(node, now); got != want {
		t.Errorf("%s: Barred(%d, %d): %v", what, node, now, got)
	}
}

// nodes: some, the ends of the numbers, and some that are none.
func nodes() []int {
	return []int{math.MinInt, math.MinInt + 1, -7, -3, -2, -1, 0, 1, 2, 3, 4, 5, 1 << 32, math.MaxInt - 1, math.MaxInt}
}

// around answers times below and at n or above, as far as numbers go.
func around(n int) (below, above []int) {
	return []int{math.MinInt, math.MinInt + 1, -(1 << 40), -1, n - 1}, []int{n, n + 1, n + top, 1 << 40, math.MaxInt - 1, math.MaxInt}
}

// barsFor looks whether g bars all but node, up to until.
func barsFor(t *testing.T, what string, g *lease.Granter, node, until int) {
	t.Helper()
	lasts(t, what, g, until)
	below, above := around(until)
	for _, other := range nodes() {
		for _, now := range below {
			barred(t, what, g, other, now, other != node)
		}
		for _, now := range above {
			barred(t, what, g, other, now, false)
		}
	}
}

// barsAll looks whether g bars everybody, up to until.
func barsAll(t *testing.T, what string, g *lease.Granter, until int) {
	t.Helper()
	lasts(t, what, g, until)
	below, above := around(until)
	for _, node := range nodes() {
		for _, now := range below {
			barred(t, what, g, node, now, true)
		}
		for _, now := range above {
			barred(t, what, g, node, now, false)
		}
	}
}

// barsNobody looks whether g is as a new one.
func barsNobody(t *testing.T, what string, g *lease.Granter) {
	t.Helper()
	lasts(t, what, g, 0)
	below, above := around(0)
	for _, node := range nodes() {
		for _, now := range append(below, above...) {
			barred(t, what, g, node, now, false)
		}
	}
}

func TestP11_2_New(t *testing.T) {
	for _, rho := range wrongDrifts() {
		if g, why := lease.New(rho); g != nil || why != api.ErrArg {
			t.Errorf("New(%d): %v, %d; not nil, %d", rho, g != nil, why, api.ErrArg)
		}
	}
	for rho := 0; rho <= 500; rho++ {
		g := granter(t, rho)
		barsNobody(t, "a new one", g)
		asks(t, "the first", g, 3, 0, 1, true, 1)
	}
}

func TestP11_2_Runs(t *testing.T) {
	g := granter(t, 0)
	asks(t, "the run", g, 0, 5, 10, true, 15)
	asks(t, "the run", g, 1, 14, 10, false, 15)
	asks(t, "the run", g, 1, 15, 10, true, 25)
}

func TestP11_2_Examples(t *testing.T) {
	g := granter(t, 100)
	asks(t, "once", g, 0, 5, 10, true, 15)
	asks(t, "again", g, 0, 5, 10, true, 15)
	for now := range 20 {
		barred(t, "who bars for 0", g, 0, now, false)
	}
}

// refusedAsks hands over what Ask refuses, whoever is barred.
func refusedAsks(do func(node, now, length int)) {
	for _, node := range nodes() {
		for _, n := range wrongTimes() {
			do(node, n, 10)
			do(node, 20, n)
			do(node, n, n)
			do(node, n, 0)
			do(node, top, n)
		}
		if node < 0 {
			for _, now := range []int{0, 1, 14, 15, 16, 100, top} {
				do(node, now, 0)
				do(node, now, 10)
				do(node, now, top)
			}
		}
	}
}

func TestP11_2_RefusedAskTurnsNothing(t *testing.T) {
	fresh, held, lost := granter(t, 0), granter(t, 0), granter(t, 0)
	asks(t, "held", held, 1, 5, 10, true, 15)
	lost.Lost(5, 10)
	refusedAsks(func(node, now, length int) {
		asks(t, "a new one", fresh, node, now, length, false, 0)
		asks(t, "one that bars for 1", held, node, now, length, false, 15)
		asks(t, "one that lost it", lost, node, now, length, false, 15)
	})
	barsNobody(t, "a new one", fresh)
	barsFor(t, "one that bars for 1", held, 1, 15)
	barsAll(t, "one that lost it", lost, 15)
}

func TestP11_2_AskOfAnyNode(t *testing.T) {
	for _, node := range nodes() {
		if node < 0 {
			continue
		}
		for _, now := range []int{0, 1, 5, top - 1, top} {
			for _, length := range []int{0, 1, 10, top - 1, top} {
				g := granter(t, 0)
				asks(t, "the first", g, node, now, length, true, now+length)
				barsFor(t, "the first", g, node, now+length)
			}
		}
	}
}

func TestP11_2_AskAgain(t *testing.T) {
	g := granter(t, 0)
	asks(t, "once", g, 2, 5, 10, true, 15)
	asks(t, "the same end", g, 2, 6, 9, true, 15)
	asks(t, "an earlier end", g, 2, 6, 2, true, 15)
	asks(t, "an earlier end, at once", g, 2, 6, 0, true, 15)
	barsFor(t, "an earlier end", g, 2, 15)
	asks(t, "a later end", g, 2, 7, 9, true, 16)
	barsFor(t, "a later end", g, 2, 16)
	asks(t, "a much later end", g, 2, 15, 100, true, 115)
	asks(t, "by a clock that went back", g, 2, 0, 1, true, 115)
	asks(t, "behind its end", g, 2, 200, 0, true, 200)
	barsFor(t, "behind its end", g, 2, 200)
	asks(t, "as long as may be", g, 2, top, top, true, 2*top)
	barsFor(t, "as long as may be", g, 2, 2*top)
	asks(t, "for good", g, 1, top, top, false, 2*top)
}

func TestP11_2_AskOfAnother(t *testing.T) {
	for _, length := range []int{0, 1, 10, top} {
		g := granter(t, 0)
		asks(t, "one", g, 0, 5, 10, true, 15)
		for _, now := range []int{0, 4, 5, 6, 13, 14} {
			asks(t, "another, below Until", g, 1, now, length, false, 15)
		}
		barsFor(t, "refused", g, 0, 15)
		asks(t, "another, at Until", g, 1, 15, length, true, 15+length)
		barsFor(t, "another, at Until", g, 1, 15+length)
	}
	g := granter(t, 0)
	asks(t, "one", g, 0, 5, 10, true, 15)
	asks(t, "another, behind Until", g, 1, 16, 3, true, 19)
	asks(t, "the one, below Until", g, 0, 18, 3, false, 19)
	asks(t, "the one, at Until", g, 0, 19, 3, true, 22)
	barsFor(t, "the one again", g, 0, 22)
}

// A lease of no length at no time bars for its node, up to 0.
func TestP11_2_AskAtZero(t *testing.T) {
	g := granter(t, 0)
	asks(t, "of no length", g, 1, 0, 0, true, 0)
	barsFor(t, "of no length", g, 1, 0)
	asks(t, "of another", g, 2, 0, 0, true, 0)
	barsFor(t, "of another", g, 2, 0)
}

func TestP11_2_BarredTurnsNothing(t *testing.T) {
	g := granter(t, 0)
	asks(t, "one", g, 0, 5, 10, true, 15)
	for range 2 {
		barsFor(t, "asked alone", g, 0, 15)
	}
	asks(t, "another, below Until", g, 1, 14, 10, false, 15)
}

func TestP11_2_Lost(t *testing.T) {
	for _, c := range []struct {
		what            string
		now, most, ends int
	}{
		{"behind Until", 5, 5, 15}, {"just behind Until", 5, 9, 15}, {"at Until", 5, 10, 15}, {"just ahead of Until", 5, 11, 16},
		{"ahead of Until", 14, 100, 114}, {"of no length", 0, 0, 15}, {"of no length, at Until", 15, 0, 15},
		{"of no length, ahead of Until", 16, 0, 16}, {"as long as may be", top, top, 2 * top},
	} {
		g := granter(t, 0)
		asks(t, "one", g, 0, 5, 10, true, 15)
		g.Lost(c.now, c.most)
		barsAll(t, c.what, g, c.ends)
		for _, node := range []int{0, 1, math.MaxInt} {
			if c.ends <= top {
				asks(t, c.what+": just below Until", g, node, c.ends-1, 10, false, c.ends)
			}
		}
		barsAll(t, c.what, g, c.ends)
		if c.ends > top {
			continue
		}
		asks(t, c.what+": at Until", g, 1, c.ends, 10, true, c.ends+10)
		barsFor(t, c.what+": at Until", g, 1, c.ends+10)
	}
}

func TestP11_2_LostIsGrantedToWhoHeld(t *testing.T) {
	g := granter(t, 0)
	asks(t, "one", g, 0, 5, 10, true, 15)
	g.Lost(6, 4)
	asks(t, "the one, below Until", g, 0, 14, 10, false, 15)
	asks(t, "the one, at Until", g, 0, 15, 10, true, 25)
	barsFor(t, "the one, at Until", g, 0, 25)
}

func TestP11_2_LostOfANewOne(t *testing.T) {
	g := granter(t, 0)
	g.Lost(3, 4)
	barsAll(t, "a new one", g, 7)
	g.Lost(3, 2)
	barsAll(t, "twice, behind Until", g, 7)
	g.Lost(3, 5)
	barsAll(t, "twice, ahead of Until", g, 8)
	asks(t, "below Until", g, 0, 7, 1, false, 8)
	asks(t, "at Until", g, 0, 8, 0, true, 8)
	barsFor(t, "at Until", g, 0, 8)

	g = granter(t, 0)
	g.Lost(0, 0)
	barsAll(t, "at no time, of no length", g, 0)
	asks(t, "at once", g, 4, 0, 1, true, 1)
}

func TestP11_2_RefusedLostTurnsNothing(t *testing.T) {
	fresh, held, lost := granter(t, 0), granter(t, 0), granter(t, 0)
	asks(t, "held", held, 1, 5, 10, true, 15)
	lost.Lost(5, 10)
	for _, n := range wrongTimes() {
		for _, c := range [][2]int{{n, 0}, {n, 50}, {n, top}, {0, n}, {50, n}, {top, n}, {n, n}} {
			for _, g := range []*lease.Granter{fresh, held, lost} {
				g.Lost(c[0], c[1])
			}
			what := fmt.Sprintf("Lost(%d, %d)", c[0], c[1])
			barsNobody(t, what+" of a new one", fresh)
			barsFor(t, what+" of one that bars for 1", held, 1, 15)
			barsAll(t, what+" of one that lost it", lost, 15)
		}
	}
}

func TestP11_2_GrantersAreApart(t *testing.T) {
	g, h := granter(t, 0), granter(t, 500)
	asks(t, "one", g, 0, 5, 10, true, 15)
	barsNobody(t, "another", h)
	h.Lost(1, 1)
	barsFor(t, "one", g, 0, 15)
	barsAll(t, "another", h, 2)
}

// What rho is does not turn what is barred: that is by the granter's own clock.
func TestP11_2_WhateverRho(t *testing.T) {
	for _, rho := range []int{0, 1, 100, 500} {
		g := granter(t, rho)
		asks(t, "one", g, 0, 5, 1000, true, 1005)
		asks(t, "another", g, 1, 1004, 1, false, 1005)
		g.Lost(1000, 300)
		barsAll(t, "lost", g, 1300)
	}
}

func TestR1_GranterOfAnyNumbers(t *testing.T) {
	g := granter(t, 0)
	for _, a := range oddNumbers() {
		for _, b := range oddNumbers() {
			g.Lost(a, b)
			g.Barred(a, b)
			for _, c := range oddNumbers() {
				before := g.Until()
				if g.Ask(a, b, c) && a < 0 {
					t.Errorf("Ask(%d, %d, %d) of no node", a, b, c)
				}
				if g.Until() < before || g.Until() > 2*top {
					t.Errorf("Ask(%d, %d, %d): Until from %d to %d", a, b, c, before, g.Until())
				}
			}
		}
	}
}
