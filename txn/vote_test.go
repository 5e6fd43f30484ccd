package txn_test

import (
	"fmt"
	"slices"
	"testing"

	"conclave/api"
	"conclave/txn"
)

// rows answers all rows of one to four groups.
func rows() [][]int {
	all := [][]int{{}}
	for from, n := 0, 0; n < api.MaxOps; n++ {
		to := len(all)
		for _, row := range all[from:to] {
			for g := range api.MaxGroups {
				all = append(all, append(slices.Clone(row), g))
			}
		}
		from = to
	}
	return all[1:]
}

// textsOf answers for each operation a text of its own, and what group must say to vote yes.
func textsOf(owners []int, group int) []string {
	var all []string
	for k, g := range owners {
		if g == group {
			all = append(all, fmt.Sprint("text ", k))
		}
	}
	return all
}

func TestP18_1_AllYes(t *testing.T) {
	for _, owners := range rows() {
		var want []string
		for k := range owners {
			want = append(want, fmt.Sprint("text ", k))
		}
		groups := of(t, owners...).Groups()
		for _, order := range orders(groups) {
			x := of(t, owners...)
			for k, g := range order {
				is(t, fmt.Sprint(owners, " ahead of ", order[k:]), x, open(), groups...)
				yes(x, g, textsOf(owners, g)...)
			}
			is(t, fmt.Sprint(owners, " by ", order), x, committed(want...), groups...)
		}
	}
}

// orders answers l in all orders.
func orders(l []int) [][]int {
	if len(l) == 0 {
		return [][]int{nil}
	}
	var all [][]int
	for k, first := range l {
		for _, rest := range orders(slices.Delete(slices.Clone(l), k, k+1)) {
			all = append(all, append([]int{first}, rest...))
		}
	}
	return all
}

func TestP18_1_AnotherNumberOfTexts(t *testing.T) {
	for _, owners := range rows() {
		x := of(t, owners...)
		groups := x.Groups()
		for _, g := range groups {
			right := textsOf(owners, g)
			for n := range 7 {
				if n != len(right) {
					yes(x, g, make([]string, n)...)
					is(t, fmt.Sprint(owners, ": ", n, " texts of ", g), x, open(), groups...)
				}
			}
			x.Vote(g, true, nil, 1, api.Bound)
			is(t, fmt.Sprint(owners, ": nil of ", g), x, open(), groups...)
		}
		for _, g := range groups {
			yes(x, g, textsOf(owners, g)...)
		}
		if x.Outcome() != api.Committed {
			t.Errorf("%v: a vote that does not count bars one that does: %d", owners, x.Outcome())
		}
	}
}

// One whose yes did not count may still say no.
func TestP18_1_NoBehindAYesThatDoesNotCount(t *testing.T) {
	x := of(t, 0, 1, 1)
	yes(x, 1, "a")
	no(x, 1, 2, api.NoStage)
	is(t, "no", x, rejected(2, api.NoStage), 0, 1)
}

// What a yes has beside its texts says nothing.
func TestP18_1_YesWithAReason(t *testing.T) {
	for _, why := range []api.Errno{api.OK, api.Busy, api.Stale, api.Bound, -1} {
		x := of(t, 2, 0)
		x.Vote(0, true, []string{"a"}, 9, why)
		is(t, "one", x, open(), 0, 2)
		x.Vote(2, true, []string{"b"}, -9, why)
		is(t, "both", x, committed("b", "a"), 0, 2)
	}
}

func TestP18_1_NoDecidesAtOnce(t *testing.T) {
	for _, n := range numbers() {
		for _, at := range []int{n, 0, 1} {
			for _, why := range []api.Errno{api.Errno(n), api.OK, api.ErrArg, api.NoCase, api.Bound, api.Clash, api.Unknown} {
				for _, g := range []int{0, 2} {
					x := of(t, 0, 2, 0)
					no(x, g, at, why)
					is(t, fmt.Sprint("no of ", g), x, rejected(at, why), 0, 2)
				}
			}
		}
	}
}

// The words are Busy and Stale; those beside them in the table are none.
func TestP18_1_NoThatPasses(t *testing.T) {
	for why := api.Errno(-1); why < 60; why++ {
		want := rejected(1, why)
		if why == api.Busy || why == api.Stale {
			want = aborted()
		}
		x := of(t, 0, 1)
		no(x, 1, 1, why)
		is(t, fmt.Sprint("no for ", int(why)), x, want, 0, 1)
		x = of(t, 0, 1)
		yes(x, 0, "a")
		no(x, 1, 1, why)
		is(t, fmt.Sprint("no for ", int(why), " behind a yes"), x, want, 0, 1)
	}
}

// What a no has as texts says nothing.
func TestP18_1_NoWithTexts(t *testing.T) {
	for n := range 6 {
		x := of(t, 0, 1, 1)
		x.Vote(1, false, make([]string, n), 2, api.Bound)
		is(t, fmt.Sprint(n, " texts"), x, rejected(2, api.Bound), 0, 1)
		x = of(t, 0, 1, 1)
		x.Vote(1, false, make([]string, n), 2, api.Stale)
		is(t, fmt.Sprint(n, " texts, Stale"), x, aborted(), 0, 1)
	}
}

func TestP18_1_VotesOfOthers(t *testing.T) {
	for _, owners := range rows() {
		x := of(t, owners...)
		groups := x.Groups()
		for _, g := range numbers() {
			if slices.Contains(groups, g) {
				continue
			}
			for n := range 5 {
				yes(x, g, make([]string, n)...)
			}
			no(x, g, 0, api.Bound)
			no(x, g, 0, api.Busy)
			is(t, fmt.Sprint(owners, ": votes of ", g), x, open(), groups...)
		}
	}
}

func TestP18_1_SecondVotes(t *testing.T) {
	x := of(t, 0, 1, 2)
	for _, g := range []int{2, 0} {
		yes(x, g, "first")
		for _, why := range []api.Errno{api.OK, api.Bound, api.Busy, api.Stale} {
			no(x, g, g, why)
		}
		yes(x, g, "second")
		is(t, fmt.Sprint("second votes of ", g), x, open(), 0, 1, 2)
	}
	yes(x, 1, "last")
	is(t, "all", x, committed("first", "last", "first"), 0, 1, 2)
}

func TestP18_1_Late(t *testing.T) {
	x := of(t, 0, 1)
	x.Late()
	is(t, "at once", x, aborted(), 0, 1)
	x = of(t, 0, 1)
	yes(x, 1, "b")
	x.Late()
	is(t, "behind a yes", x, aborted(), 0, 1)
	x.Late()
	is(t, "twice", x, aborted(), 0, 1)
}

// decided answers for each outcome ways to it.
func decided(t *testing.T) map[string]*txn.Txn {
	t.Helper()
	all := map[string]*txn.Txn{}
	for _, what := range []string{"committed", "rejected", "rejected for OK", "busy", "stale", "late", "late behind a yes"} {
		x := of(t, 0, 1, 0)
		switch what {
		case "committed":
			yes(x, 1, "b")
			yes(x, 0, "a", "c")
		case "rejected":
			no(x, 0, 2, api.Bound)
		case "rejected for OK":
			no(x, 0, 0, api.OK)
		case "busy":
			no(x, 1, 1, api.Busy)
		case "stale":
			no(x, 1, 1, api.Stale)
		case "late behind a yes":
			yes(x, 1, "b")
			x.Late()
		case "late":
			x.Late()
		}
		all[what] = x
	}
	return all
}

func TestP18_3_OutcomesStay(t *testing.T) {
	for what, x := range decided(t) {
		ahead, bytes := look(x), x.Save()
		if ahead.outcome == api.Open {
			t.Errorf("%s: Open", what)
		}
		for _, g := range append(numbers(), 0, 1, 2) {
			yes(x, g, "x")
			yes(x, g, "x", "y")
			yes(x, g)
			for _, why := range []api.Errno{api.OK, api.NoCase, api.Busy, api.Stale} {
				no(x, g, 1, why)
				no(x, g, 0, why)
			}
			x.Late()
		}
		if got := look(x); !got.same(ahead) || string(x.Save()) != string(bytes) {
			t.Errorf("%s: %v behind more votes, not %v", what, got, ahead)
		}
		x.Ack(0)
		x.Ack(1)
		ahead.left = nil
		if got := look(x); !got.same(ahead) {
			t.Errorf("%s: %v behind Acks, not %v", what, got, ahead)
		}
	}
}
