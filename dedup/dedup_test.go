package dedup_test

import (
	"fmt"
	"math"
	"slices"
	"strings"
	"testing"

	"conclave/api"
	"conclave/dedup"
)

// table answers a new table for most clients.
func table(t *testing.T, most int) *dedup.Table {
	t.Helper()
	x, why := dedup.New(most)
	if x == nil || why != api.OK {
		t.Fatalf("New(%d): %v, %d", most, x != nil, why)
	}
	return x
}

// asks looks whether Ask answers kind and reply.
func asks(t *testing.T, what string, x *dedup.Table, client string, id, kind int, reply string) {
	t.Helper()
	if k, r := x.Ask(client, id); k != kind || r != reply {
		t.Errorf("%s: Ask(%.20q, %d): %d, %.20q; not %d, %.20q", what, client, id, k, r, kind, reply)
	}
}

// done looks whether Done is taken.
func done(t *testing.T, what string, x *dedup.Table, client string, id int, reply string) {
	t.Helper()
	if why := x.Done(client, id, reply); why != api.OK {
		t.Errorf("%s: Done(%.20q, %d): %d; not OK", what, client, id, why)
	}
}

// refuses looks whether Done is refused and turns nothing.
func refuses(t *testing.T, what string, x *dedup.Table, client string, id int, reply string) {
	t.Helper()
	before := string(x.Save())
	if why := x.Done(client, id, reply); why != api.ErrArg {
		t.Errorf("%s: Done(%.20q, %d): %d; not %d", what, client, id, why, api.ErrArg)
	}
	if string(x.Save()) != before {
		t.Errorf("%s: Done(%.20q, %d) was refused and has turned something", what, client, id)
	}
}

// clients looks whether Clients answers want.
func clients(t *testing.T, what string, x *dedup.Table, want ...string) {
	t.Helper()
	if got := x.Clients(); !slices.Equal(got, want) {
		t.Errorf("%s: Clients: %.200q; not %.200q", what, got, want)
	}
}

// name answers a client's name for a number.
func name(k int) string { return fmt.Sprint("c", k) }

// names answers the names for the numbers from from to below below.
func names(from, below int) []string {
	var all []string
	for k := from; k < below; k++ {
		all = append(all, name(k))
	}
	return all
}

// filled answers a table for most clients of whom the first n were Done, each with its number as id.
func filled(t *testing.T, most, n int) *dedup.Table {
	t.Helper()
	x := table(t, most)
	for k := range n {
		done(t, "one of many", x, name(k), k, "r"+name(k))
	}
	return x
}

func TestP10_1_Kinds(t *testing.T) {
	if dedup.Fresh != 1 || dedup.Again != 2 || dedup.Past != 3 {
		t.Errorf("Fresh %d, Again %d, Past %d", dedup.Fresh, dedup.Again, dedup.Past)
	}
}

func TestP10_1_Runs(t *testing.T) {
	x := table(t, 3)
	done(t, "the run", x, "a", 1, "x")
	asks(t, "the run", x, "a", 1, dedup.Again, "x")
	asks(t, "the run", x, "a", 2, dedup.Fresh, "")
	asks(t, "the run", x, "a", 0, dedup.Past, "")
}

func TestP10_1_Examples(t *testing.T) {
	x := table(t, 1)
	done(t, "once", x, "a", 1, "x")
	refuses(t, "twice", x, "a", 1, "x")
	done(t, "another", x, "b", 1, "y")
	asks(t, "forgotten", x, "a", 1, dedup.Fresh, "")
}

func TestP10_1_New(t *testing.T) {
	for _, most := range []int{math.MinInt, math.MinInt + 1, math.MinInt32, -64, -2, -1, 0, 65, 66, 128, 256, 257, 1 << 32, 1<<32 + 1, math.MaxInt - 1, math.MaxInt} {
		if x, why := dedup.New(most); x != nil || why != api.ErrArg {
			t.Errorf("New(%d): %v, %d; not nil, %d", most, x != nil, why, api.ErrArg)
		}
	}
	for most := 1; most <= 64; most++ {
		clients(t, fmt.Sprint("New of ", most), table(t, most))
	}
}

// ids: of every sign, and the ends of the numbers.
func ids() []int {
	return []int{math.MinInt, math.MinInt + 1, math.MinInt32 - 1, math.MinInt32, -257, -2, -1, 0, 1, 2, 255, 256, math.MaxInt32, 1 << 31, 1 << 32, math.MaxInt - 1, math.MaxInt}
}

func TestP10_1_AskOfNobody(t *testing.T) {
	x := table(t, 2)
	for _, id := range ids() {
		for _, client := range []string{"", "a", "\x00", "\xff"} {
			asks(t, "a new table", x, client, id, dedup.Fresh, "")
		}
	}
	clients(t, "asked alone", x)
	done(t, "one", x, "a", 5, "x")
	for _, id := range ids() {
		for _, client := range []string{"", "b", "A", "aa", "a\x00", "\x00a", " a"} {
			asks(t, "another than the one", x, client, id, dedup.Fresh, "")
		}
	}
	clients(t, "asked alone", x, "a")
}

func TestP10_1_AskBesideEachId(t *testing.T) {
	rising := ids()
	for k, last := range rising {
		x := table(t, 2)
		done(t, "the last", x, "a", last, "x")
		for j, id := range rising {
			switch {
			case j > k:
				asks(t, fmt.Sprint("above ", last), x, "a", id, dedup.Fresh, "")
			case j == k:
				asks(t, fmt.Sprint("just ", last), x, "a", id, dedup.Again, "x")
			default:
				asks(t, fmt.Sprint("below ", last), x, "a", id, dedup.Past, "")
			}
		}
		clients(t, "asked alone", x, "a")
		asks(t, "asked before", x, "a", last, dedup.Again, "x")
	}
}

func TestP10_1_DoneBesideEachId(t *testing.T) {
	rising := ids()
	for k, last := range rising {
		for j, id := range rising {
			x := table(t, 3)
			done(t, "the last", x, "a", last, "x")
			done(t, "another", x, "b", 0, "y")
			if j <= k {
				refuses(t, fmt.Sprint("not above ", last), x, "a", id, "z")
				clients(t, "refused", x, "a", "b")
				asks(t, "refused", x, "a", last, dedup.Again, "x")
			} else {
				done(t, fmt.Sprint("above ", last), x, "a", id, "z")
				clients(t, "taken", x, "b", "a")
				asks(t, "taken", x, "a", id, dedup.Again, "z")
				asks(t, "what was the last", x, "a", last, dedup.Past, "")
			}
			asks(t, "another", x, "b", 0, dedup.Again, "y")
		}
	}
}

func TestP10_1_FirstIds(t *testing.T) {
	for _, id := range ids() {
		x := table(t, 1)
		done(t, "a first id", x, "a", id, "x")
		asks(t, "a first id", x, "a", id, dedup.Again, "x")
		refuses(t, "a first id, twice", x, "a", id, "x")
		refuses(t, "a first id, with another reply", x, "a", id, "y")
	}
}

func TestP10_1_RefusedDoneTurnsNothing(t *testing.T) {
	x := filled(t, 3, 3)
	refuses(t, "Again", x, "c0", 0, "z")
	refuses(t, "Past", x, "c1", 0, "z")
	refuses(t, "Again of the last one", x, "c2", 2, "rc2")
	clients(t, "refused", x, "c0", "c1", "c2")
	for k := range 3 {
		asks(t, "refused", x, name(k), k, dedup.Again, "r"+name(k))
	}
	done(t, "one more", x, "c3", 3, "")
	clients(t, "the first is still the first to go", x, "c1", "c2", "c3")
}

func TestP10_1_IdsRise(t *testing.T) {
	x := table(t, 1)
	for k, id := range ids() {
		done(t, "rising", x, "a", id, fmt.Sprint(k))
		asks(t, "rising", x, "a", id, dedup.Again, fmt.Sprint(k))
		clients(t, "rising", x, "a")
		for _, past := range ids()[:k] {
			asks(t, "past", x, "a", past, dedup.Past, "")
			refuses(t, "past", x, "a", past, "z")
		}
	}
}

func TestP10_1_ClientsAreApart(t *testing.T) {
	x := table(t, 8)
	all := []string{"a", "", "b", "a\x00", "\x00", "\xff\xfe", "é", strings.Repeat("a", 70000)}
	for k, client := range all {
		done(t, "its own id", x, client, 10*k, fmt.Sprint(k))
	}
	clients(t, "each once", x, all...)
	for k, client := range all {
		asks(t, "its own", x, client, 10*k, dedup.Again, fmt.Sprint(k))
		asks(t, "its own", x, client, 10*k+1, dedup.Fresh, "")
		asks(t, "its own", x, client, 10*k-1, dedup.Past, "")
	}
}

func TestP10_1_EmptyClientAndReply(t *testing.T) {
	x := table(t, 2)
	done(t, "both empty", x, "", 0, "")
	clients(t, "both empty", x, "")
	asks(t, "both empty", x, "", 0, dedup.Again, "")
	asks(t, "both empty", x, "", 1, dedup.Fresh, "")
	asks(t, "both empty", x, "", -1, dedup.Past, "")
	refuses(t, "both empty, twice", x, "", 0, "x")
	done(t, "an empty reply behind one that is not", x, "", 1, "x")
	done(t, "an empty reply behind one that is not", x, "", 2, "")
	asks(t, "an empty reply behind one that is not", x, "", 2, dedup.Again, "")
	done(t, "others", x, "a", 0, "")
	done(t, "others", x, "b", 0, "")
	clients(t, "the empty one is forgotten", x, "a", "b")
	asks(t, "the empty one is forgotten", x, "", 0, dedup.Fresh, "")
}

func TestP10_1_RepliesAreBytes(t *testing.T) {
	x := table(t, 1)
	for k, reply := range []string{"", "\x00", "\xff\xfe", "é", strings.Repeat("v", 1<<17)} {
		done(t, "a reply", x, "a", k, reply)
		asks(t, "a reply", x, "a", k, dedup.Again, reply)
	}
}

func TestP10_1_Clients(t *testing.T) {
	x := table(t, 3)
	clients(t, "new", x)
	done(t, "one", x, "b", 1, "")
	clients(t, "one", x, "b")
	done(t, "two", x, "c", 1, "")
	clients(t, "two", x, "b", "c")
	done(t, "three", x, "a", 1, "")
	clients(t, "three", x, "b", "c", "a")
	done(t, "the first again", x, "b", 2, "")
	clients(t, "the first again", x, "c", "a", "b")
	done(t, "the last again", x, "b", 3, "")
	clients(t, "the last again", x, "c", "a", "b")
	done(t, "the midst again", x, "a", 2, "")
	clients(t, "the midst again", x, "c", "b", "a")
	done(t, "one more", x, "d", 1, "")
	clients(t, "one more", x, "b", "a", "d")
	done(t, "the forgotten one", x, "c", 1, "")
	clients(t, "the forgotten one", x, "a", "d", "c")
}

func TestP10_1_OneMoreThanMost(t *testing.T) {
	for _, most := range []int{1, 2, 3, 63, 64} {
		x := filled(t, most, most)
		clients(t, fmt.Sprint("full, ", most), x, names(0, most)...)
		for k := most; k < 3*most+2; k++ {
			done(t, "one more", x, name(k), k, "r"+name(k))
			clients(t, fmt.Sprint("one more than ", most), x, names(k-most+1, k+1)...)
			gone := k - most
			asks(t, "forgotten", x, name(gone), gone, dedup.Fresh, "")
			asks(t, "forgotten, a lower id", x, name(gone), gone-1, dedup.Fresh, "")
			asks(t, "the first of those that stay", x, name(gone+1), gone+1, dedup.Again, "r"+name(gone+1))
		}
	}
}

func TestP10_1_AgainDoneStays(t *testing.T) {
	for _, most := range []int{2, 3, 64} {
		x := filled(t, most, most)
		done(t, "the first again", x, "c0", 1, "new")
		clients(t, "full, and nobody is forgotten", x, append(names(1, most), "c0")...)
		done(t, "one more", x, "more", 1, "")
		clients(t, "the second was Done longest ago", x, append(names(2, most), "c0", "more")...)
		asks(t, "the second", x, "c1", 1, dedup.Fresh, "")
		asks(t, "the first", x, "c0", 1, dedup.Again, "new")
		asks(t, "the first", x, "c0", 0, dedup.Past, "")
	}
}

func TestP10_1_ForgottenBeginsAnew(t *testing.T) {
	x := table(t, 1)
	done(t, "high", x, "a", 100, "x")
	done(t, "another", x, "b", -7, "y")
	asks(t, "forgotten", x, "a", 100, dedup.Fresh, "")
	done(t, "low", x, "a", math.MinInt, "z")
	clients(t, "begun anew", x, "a")
	asks(t, "begun anew", x, "a", math.MinInt, dedup.Again, "z")
	asks(t, "begun anew", x, "a", 100, dedup.Fresh, "")
	asks(t, "another", x, "b", -7, dedup.Fresh, "")
}

func TestP10_1_AskKeepsNobody(t *testing.T) {
	x := filled(t, 2, 2)
	asks(t, "the first", x, "c0", 0, dedup.Again, "rc0")
	asks(t, "the first", x, "c0", 9, dedup.Fresh, "")
	asks(t, "none", x, "none", 9, dedup.Fresh, "")
	clients(t, "asked alone", x, "c0", "c1")
	done(t, "one more", x, "c2", 2, "")
	clients(t, "the first goes, though it was asked", x, "c1", "c2")
}

func TestP10_1_TablesAreApart(t *testing.T) {
	x, y := table(t, 1), table(t, 2)
	done(t, "one", x, "a", 1, "x")
	clients(t, "another", y)
	asks(t, "another", y, "a", 1, dedup.Fresh, "")
	done(t, "another", y, "a", 0, "y")
	asks(t, "one", x, "a", 1, dedup.Again, "x")
	asks(t, "another", y, "a", 0, dedup.Again, "y")
}

func TestR2_Clients(t *testing.T) {
	x := filled(t, 3, 3)
	got, again := x.Clients(), x.Clients()
	got = got[:cap(got)]
	for k := range got {
		got[k] = "spoilt"
	}
	clients(t, "Clients' answer was written to", x, "c0", "c1", "c2")
	if !slices.Equal(again, names(0, 3)) {
		t.Errorf("two answers of Clients share memory: %q", again)
	}
	done(t, "one more", x, "c3", 3, "")
	done(t, "one again", x, "c1", 9, "")
	if !slices.Equal(again, names(0, 3)) {
		t.Errorf("Done turned what Clients had answered: %q", again)
	}
}
