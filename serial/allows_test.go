package serial_test

import (
	"math"
	"slices"
	"testing"

	"conclave/api"
	"conclave/serial"
)

// allows looks whether m allows r of l, and turns nothing.
func allows(t *testing.T, m *serial.Map, want bool, r api.Reply, l ...api.Op) {
	t.Helper()
	was := whole(m)
	if got := m.Allows(l, r); got != want {
		t.Errorf("%v: %s: %v", l, told(r), got)
	}
	if now := whole(m); now != was {
		t.Errorf("Allows of %v left %s, not %s", l, now, was)
	}
}

// some answers a map with a loan a and a note b.
func some(t *testing.T) *serial.Map {
	t.Helper()
	return began(t, ops(create("a", "loan"), create("b", "note")))
}

// P22.2: what Do would answer, each field of it.
func TestP22_2_AllowsWhatDoAnswers(t *testing.T) {
	m := some(t)
	l := ops(add("a", "sum", 1), read("a"), read("b"))
	allows(t, m, true, committed("", "loan sum=6", "note n=0"), l...)
	for _, r := range []api.Reply{
		{}, committed(), committed(""), committed("", "loan sum=6"), committed("", "loan sum=5", "note n=0"), committed("", "loan sum=6", "note n=0", ""), committed("", "note n=0", "loan sum=6"),
		{Outcome: api.Open, Texts: []string{"", "loan sum=6", "note n=0"}}, {Outcome: api.Aborted, Texts: []string{"", "loan sum=6", "note n=0"}}, {Outcome: api.Rejected, Texts: []string{"", "loan sum=6", "note n=0"}},
		{Outcome: api.Committed, Texts: []string{"", "loan sum=6", "note n=0"}, At: 1}, {Outcome: api.Committed, Texts: []string{"", "loan sum=6", "note n=0"}, Why: api.Bound},
		{Outcome: 4, Texts: []string{"", "loan sum=6", "note n=0"}}, {Outcome: -1, Texts: []string{"", "loan sum=6", "note n=0"}},
	} {
		allows(t, m, false, r, l...)
	}
	allows(t, m, true, committed("", "loan sum=6", "note n=0"), l...) // Allows did not turn a
	allows(t, m, true, rejected(1, api.Exists), read("a"), create("b", "note"))
	for _, outcome := range []int{-1, api.Open, api.Committed, api.Aborted, 4} {
		allows(t, m, false, api.Reply{Outcome: outcome, At: 1, Why: api.Exists}, read("a"), create("b", "note"))
	}
}

// P22.2: of several that are refused each one may be told, behind those ahead on its case alone.
func TestP22_2_AllowsAnyRefused(t *testing.T) {
	m := some(t)
	l := ops(read("x"), set("b", "n", 10), create("a", "loan"), fire("a", "shut"))
	for at, why := range []api.Errno{api.NoCase, api.Bound, api.Exists} {
		allows(t, m, true, rejected(at, why), l...)
		for other := range api.Errno(40) {
			if other != why {
				allows(t, m, false, rejected(at, other), l...)
			}
		}
	}
	allows(t, m, false, rejected(3, api.NoStage), l...) // the one ahead on a is refused
	allows(t, m, true, rejected(3, api.NoStage), l[0], l[1], read("a"), l[3])
	for _, at := range []int{math.MinInt, -1, 4, 5, math.MaxInt} {
		allows(t, m, false, rejected(at, api.NoCase), slices.Repeat(ops(read("x")), 4)...)
	}
	allows(t, m, true, rejected(0, api.NoCase), slices.Repeat(ops(read("x")), 4)...)
	allows(t, m, false, rejected(1, api.NoCase), slices.Repeat(ops(read("x")), 4)...)
}

// P22.2: those ahead on its case have been done, those on other cases and those behind have not.
func TestP22_2_AllowsRunsAhead(t *testing.T) {
	m := some(t)
	allows(t, m, true, rejected(1, api.Bound), set("a", "sum", 99), add("a", "sum", 2))
	allows(t, m, false, rejected(1, api.Bound), set("a", "sum", 98), add("a", "sum", 2))
	allows(t, m, true, rejected(2, api.Bound), read("x"), set("a", "sum", 99), add("a", "sum", 2))
	allows(t, m, true, rejected(3, api.Exists), read("x"), create("c", "note"), read("y"), create("c", "loan"))
	allows(t, m, true, rejected(2, api.NoCase), create("c", "note"), read("x"), read("d"))
	allows(t, m, false, rejected(1, api.NoCase), create("c", "note"), read("c"))
	allows(t, m, false, rejected(0, api.Exists), create("c", "note"), create("c", "note"))
	allows(t, m, true, rejected(0, api.NoCase), read("c"), create("c", "note"))
	allows(t, m, true, rejected(3, api.NoStage), fire("a", "pay"), fire("b", "pay"), read("a"), fire("a", "pay"))
	allows(t, m, false, rejected(3, api.NoStage), fire("a", "pay"), fire("b", "pay"), read("a"), fire("a", "shut"))
	allows(t, m, false, rejected(2, api.NoName), create("c", "note"), set("c", "sum", 1), set("c", "sum", 2))
	allows(t, m, true, rejected(1, api.NoName), create("c", "note"), set("c", "sum", 1), set("c", "sum", 2))
}

// P22.2: what is not refused is not refused with OK either.
func TestP22_2_AllowsNoOK(t *testing.T) {
	m := some(t)
	for at := range 2 {
		allows(t, m, false, rejected(at, api.OK), read("a"), read("b"))
		allows(t, m, false, rejected(at, api.OK), read("x"), read("b"))
	}
}

// P22.2: a Create may be one too many, wherever a case could be made but for its name.
func TestP22_2_AllowsBound(t *testing.T) {
	m := some(t)
	for _, name := range []string{"c", "C", "", "aa"} {
		for _, kind := range []string{"loan", "note", "bare"} {
			allows(t, m, true, rejected(0, api.Bound), create(name, kind))
		}
	}
	allows(t, m, false, rejected(0, api.Bound), create("a", "loan"))
	allows(t, m, false, rejected(0, api.Bound), create("c", "other"))
	allows(t, m, false, rejected(0, api.Bound), create("c", ""))
	allows(t, m, false, rejected(0, api.Bound), create("a", "other"))
	allows(t, m, true, rejected(1, api.Bound), create("c", "note"), create("d", "note"))
	allows(t, m, false, rejected(1, api.Bound), create("c", "note"), create("c", "note"))
	allows(t, m, true, rejected(1, api.Bound), read("x"), create("d", "note"))
	allows(t, m, false, rejected(1, api.Bound), read("d"), create("d", "note")) // who reads d is refused ahead of it
	allows(t, m, false, rejected(2, api.Bound), create("d", "other"), read("a"), create("d", "note"))
	allows(t, m, true, rejected(3, api.Bound), read("d"), create("e", "note"), read("x"), create("f", "bare"))
	allows(t, m, false, rejected(0, api.Bound), read("c"))
	allows(t, m, false, rejected(0, api.Bound), set("c", "n", 1))
	allows(t, m, false, rejected(0, api.Bound), api.Op{Kind: api.Set, Case: "c", Name: "note"})
	allows(t, m, true, rejected(0, api.NoName), create("C", "note"))
	allows(t, m, false, rejected(0, api.NoName), create("c", "note"))
}

// P22.2: of what is not formed Do answers ErrArg at 0; what is said of a Rejected one holds all the same.
func TestP22_2_AllowsNotFormed(t *testing.T) {
	m := some(t)
	allows(t, m, true, rejected(0, api.ErrArg))
	allows(t, m, false, rejected(0, api.NoCase))
	allows(t, m, false, rejected(0, api.Bound))
	allows(t, m, false, rejected(1, api.ErrArg))
	allows(t, m, false, committed())
	five := slices.Repeat(ops(read("a")), 5)
	allows(t, m, true, rejected(0, api.ErrArg), five...)
	allows(t, m, false, rejected(1, api.ErrArg), five...)
	allows(t, m, false, committed(slices.Repeat([]string{"loan sum=5"}, 5)...), five...)
	five[4].Case = "x"
	allows(t, m, true, rejected(4, api.NoCase), five...)
	strange := ops(read("a"), kind(9, "a"), kind(9, "x"))
	allows(t, m, true, rejected(0, api.ErrArg), strange...)
	allows(t, m, true, rejected(1, api.ErrArg), strange...)
	allows(t, m, true, rejected(2, api.NoCase), strange...)
	allows(t, m, false, rejected(2, api.ErrArg), strange...)
}

// P22.2: a Rejected reply is asked for its At and its Why, whatever texts are beside them.
func TestP22_2_AllowsTextsOfRejected(t *testing.T) {
	m := some(t)
	r := rejected(0, api.NoCase)
	r.Texts = []string{"text"}
	allows(t, m, true, r, read("x"))
	allows(t, m, false, r, read("a"))
}
