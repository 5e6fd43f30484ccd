package ballot_test

import (
	"bytes"
	"cmp"
	"encoding/binary"
	"fmt"
	"math"
	"math/rand"
	"slices"
	"strings"
	"testing"

	"conclave/api"
	"conclave/ballot"
)

func of(round, node int) api.Ballot { return api.Ballot{Round: round, Node: node} }

func vote(slot, round, node int, v string) api.Vote {
	return api.Vote{Slot: slot, B: of(round, node), V: v}
}

// holds looks whether a has promised b and has the votes want.
func holds(t *testing.T, what string, a *ballot.Acceptor, b api.Ballot, want ...api.Vote) {
	t.Helper()
	if got := a.Votes(0); a.Promised() != b || !slices.Equal(got, want) {
		t.Errorf("%s: promised %v, votes %.200v; not %v, %.200v", what, a.Promised(), got, b, want)
	}
}

// prepares looks whether Prepare(b, from) answers true and want.
func prepares(t *testing.T, what string, a *ballot.Acceptor, b api.Ballot, from int, want ...api.Vote) {
	t.Helper()
	if ok, got := a.Prepare(b, from); !ok || !slices.Equal(got, want) {
		t.Errorf("%s: %t, %v; not true, %v", what, ok, got, want)
	}
}

// refuses looks whether Prepare(b, from) answers false and none, and turns nothing.
func refuses(t *testing.T, what string, a *ballot.Acceptor, b api.Ballot, from int) {
	t.Helper()
	before, promised := a.Votes(0), a.Promised()
	if ok, got := a.Prepare(b, from); ok || len(got) != 0 {
		t.Errorf("%s: %t, %v; not false, none", what, ok, got)
	}
	holds(t, what, a, promised, before...)
}

// accepts looks whether Accept answers want, and turns nothing if that is false.
func accepts(t *testing.T, what string, a *ballot.Acceptor, b api.Ballot, slot int, v string, want bool) {
	t.Helper()
	before, promised := a.Votes(0), a.Promised()
	if got := a.Accept(b, slot, v); got != want {
		t.Errorf("%s: %t", what, got)
	}
	if !want {
		holds(t, what, a, promised, before...)
	}
}

// voted answers an acceptor that has accepted all, in that order.
func voted(t *testing.T, all ...api.Vote) *ballot.Acceptor {
	t.Helper()
	a := ballot.New()
	for _, v := range all {
		accepts(t, "a first vote", a, v.B, v.Slot, v.V, true)
	}
	return a
}

// load answers the acceptor that was saved as b.
func load(t *testing.T, what string, b []byte) *ballot.Acceptor {
	t.Helper()
	a, why := ballot.Load(b)
	if a == nil || why != api.OK {
		t.Fatalf("%s: Load: %v, %d", what, a != nil, why)
	}
	return a
}

// unloaded looks whether b is refused.
func unloaded(t *testing.T, what string, b []byte) {
	t.Helper()
	if a, why := ballot.Load(b); a != nil || why != api.ErrForm {
		t.Errorf("%s: Load: %v, %d; not nil, %d", what, a != nil, why, api.ErrForm)
	}
}

// bytesOf answers what may be an acceptor's bytes, written apart from package ballot: a ballot, a number of votes,
// and votes, each of which may be wrong.
func bytesOf(promised api.Ballot, count int, votes ...api.Vote) []byte {
	b := putBallot(nil, promised)
	b = binary.BigEndian.AppendUint32(b, uint32(count))
	for _, v := range votes {
		b = binary.BigEndian.AppendUint32(b, uint32(v.Slot))
		b = putBallot(b, v.B)
		b = binary.BigEndian.AppendUint32(b, uint32(len(v.V)))
		b = append(b, v.V...)
	}
	return b
}

func putBallot(b []byte, x api.Ballot) []byte {
	b = binary.BigEndian.AppendUint64(b, uint64(x.Round))
	return binary.BigEndian.AppendUint64(b, uint64(x.Node))
}

func TestP7_1_Runs(t *testing.T) {
	a := ballot.New()
	prepares(t, "the first run", a, of(1, 0), 0)
	refuses(t, "the first run, once more", a, of(1, 0), 0)
	a = ballot.New()
	accepts(t, "the second run", a, of(1, 0), 3, "x", true)
	prepares(t, "the second run", a, of(2, 0), 0, vote(3, 1, 0, "x"))
}

func TestP7_1_Example(t *testing.T) {
	a := ballot.New()
	prepares(t, "Prepare", a, of(3, 1), 0)
	accepts(t, "the promised ballot", a, of(3, 1), 0, "x", true)
	holds(t, "the promised ballot", a, of(3, 1), vote(0, 3, 1, "x"))
}

func TestP7_1_Less(t *testing.T) {
	numbers := []int{math.MinInt, math.MinInt + 1, math.MinInt32, -2, -1, 0, 1, 2, math.MaxInt32, 1 << 32, math.MaxInt - 1, math.MaxInt}
	var rising []api.Ballot
	for _, round := range numbers {
		for _, node := range numbers {
			rising = append(rising, of(round, node))
		}
	}
	for i, a := range rising {
		for j, b := range rising {
			if got := ballot.Less(a, b); got != (i < j) {
				t.Errorf("Less(%v, %v): %t", a, b, got)
			}
		}
	}
}

func TestP7_1_New(t *testing.T) {
	a := ballot.New()
	if a == nil {
		t.Fatal("New: nil")
	}
	holds(t, "a new one", a, of(0, 0))
	for _, from := range []int{math.MinInt, -1, 0, 1, api.MaxSlots, math.MaxInt} {
		if got := a.Votes(from); len(got) != 0 {
			t.Errorf("Votes(%d) of a new one: %v", from, got)
		}
		a.Forget(from)
	}
	holds(t, "Forget of nothing", a, of(0, 0))
}

func TestP7_1_PrepareFirst(t *testing.T) {
	for _, b := range []api.Ballot{of(0, 0), of(0, -1), of(-1, 0), of(-1, 5), of(-1, math.MaxInt), of(math.MinInt, math.MinInt)} {
		refuses(t, fmt.Sprint("not above {0 0}: ", b), ballot.New(), b, 0)
	}
	for _, b := range []api.Ballot{of(0, 1), of(1, 0), of(1, -1), of(1, math.MinInt), of(0, math.MaxInt), of(math.MaxInt, math.MaxInt)} {
		a := ballot.New()
		prepares(t, fmt.Sprint("above {0 0}: ", b), a, b, 0)
		holds(t, fmt.Sprint("above {0 0}: ", b), a, b)
	}
}

func TestP7_1_PrepareBeside(t *testing.T) {
	a := voted(t, vote(2, 5, 3, "x"))
	for _, b := range []api.Ballot{of(5, 3), of(5, 2), of(4, 3), of(4, 4), of(4, math.MaxInt), of(5, -1), of(0, 0), of(-5, 9)} {
		refuses(t, fmt.Sprint("not above: ", b), a, b, 0)
	}
	prepares(t, "a node above", a, of(5, 4), 0, vote(2, 5, 3, "x"))
	holds(t, "a node above", a, of(5, 4), vote(2, 5, 3, "x"))
	refuses(t, "the promised one", a, of(5, 4), 0)
	prepares(t, "a round above", a, of(6, 0), 0, vote(2, 5, 3, "x"))
	holds(t, "a round above", a, of(6, 0), vote(2, 5, 3, "x"))
	refuses(t, "what was promised ahead", a, of(5, 4), 0)
	prepares(t, "the greatest", a, of(math.MaxInt, math.MaxInt), 0, vote(2, 5, 3, "x"))
	refuses(t, "the greatest again", a, of(math.MaxInt, math.MaxInt), 0)
}

// someVotes: at the ends, in the midst and beside one another, of several ballots, neither rising nor falling.
func someVotes() []api.Vote {
	return []api.Vote{vote(7, 1, 0, "g"), vote(api.MaxSlots-1, 1, 1, "z"), vote(0, 1, 1, ""), vote(6, 2, 0, "f"), vote(100, 2, 4, "m"), vote(300, 3, 2, "q")}
}

// from answers those of all at slots from on, by slot.
func from(all []api.Vote, least int) []api.Vote {
	var some []api.Vote
	for _, v := range all {
		if v.Slot >= least {
			some = append(some, v)
		}
	}
	slices.SortFunc(some, func(a, b api.Vote) int { return cmp.Compare(a.Slot, b.Slot) })
	return some
}

func bounds() []int {
	return []int{math.MinInt, math.MinInt + 1, -513, -1, 0, 1, 5, 6, 7, 8, 99, 100, 101, 300, 510, 511, 512, 513, math.MaxInt - 1, math.MaxInt}
}

func TestP7_1_Votes(t *testing.T) {
	a := voted(t, someVotes()...)
	for _, least := range bounds() {
		if got, want := a.Votes(least), from(someVotes(), least); !slices.Equal(got, want) {
			t.Errorf("Votes(%d): %v, not %v", least, got, want)
		}
	}
	holds(t, "asked", a, of(3, 2), from(someVotes(), 0)...)
}

func TestP7_1_PrepareFrom(t *testing.T) {
	a := voted(t, someVotes()...)
	for k, least := range bounds() {
		prepares(t, fmt.Sprint("Prepare from ", least), a, of(4+k, 0), least, from(someVotes(), least)...)
		holds(t, fmt.Sprint("Prepare from ", least), a, of(4+k, 0), from(someVotes(), 0)...)
		refuses(t, fmt.Sprint("refused from ", least), a, of(4+k, 0), least)
	}
}

func TestP7_1_Forget(t *testing.T) {
	for _, below := range bounds() {
		a := voted(t, someVotes()...)
		a.Forget(below)
		holds(t, fmt.Sprint("Forget below ", below), a, of(3, 2), from(someVotes(), below)...)
		a.Forget(below)
		holds(t, fmt.Sprint("once more below ", below), a, of(3, 2), from(someVotes(), below)...)
	}
	a := voted(t, someVotes()...)
	for below := range api.MaxSlots + 1 {
		a.Forget(below)
		holds(t, fmt.Sprint("step by step below ", below), a, of(3, 2), from(someVotes(), below)...)
	}
	refuses(t, "what is promised stays", a, of(3, 2), 0)
	accepts(t, "what is promised stays", a, of(3, 1), 4, "x", false)
	accepts(t, "a slot that was forgotten", a, of(3, 2), 4, "x", true)
	holds(t, "a slot that was forgotten", a, of(3, 2), vote(4, 3, 2, "x"))
}

func TestP7_1_AcceptFirst(t *testing.T) {
	for _, b := range []api.Ballot{of(0, 0), of(0, -1), of(-1, 0), of(-1, 7), of(math.MinInt, math.MaxInt)} {
		accepts(t, fmt.Sprint("not above {0 0}: ", b), ballot.New(), b, 0, "x", false)
	}
	for _, b := range []api.Ballot{of(0, 1), of(1, 0), of(1, -1), of(1, math.MinInt), of(math.MaxInt, math.MaxInt)} {
		a := ballot.New()
		accepts(t, fmt.Sprint("above {0 0}: ", b), a, b, 0, "x", true)
		holds(t, fmt.Sprint("above {0 0}: ", b), a, b, api.Vote{Slot: 0, B: b, V: "x"})
	}
}

func TestP7_1_AcceptBeside(t *testing.T) {
	a := ballot.New()
	prepares(t, "Prepare", a, of(5, 3), 0)
	for _, b := range []api.Ballot{of(5, 2), of(4, 3), of(4, 9), of(0, 0), of(-1, 0), of(5, -3)} {
		accepts(t, fmt.Sprint("below: ", b), a, b, 1, "x", false)
	}
	accepts(t, "the promised one", a, of(5, 3), 1, "x", true)
	holds(t, "the promised one", a, of(5, 3), vote(1, 5, 3, "x"))
	accepts(t, "a node above", a, of(5, 4), 2, "y", true)
	holds(t, "one above is promised", a, of(5, 4), vote(1, 5, 3, "x"), vote(2, 5, 4, "y"))
	accepts(t, "what was promised ahead", a, of(5, 3), 3, "z", false)
	refuses(t, "Prepare of what was accepted", a, of(5, 4), 0)
	accepts(t, "a round above", a, of(6, 0), 0, "w", true)
	holds(t, "a round above", a, of(6, 0), vote(0, 6, 0, "w"), vote(1, 5, 3, "x"), vote(2, 5, 4, "y"))
}

func TestP7_1_AcceptSlots(t *testing.T) {
	for _, slot := range []int{math.MinInt, -api.MaxSlots, -2, -1, api.MaxSlots, api.MaxSlots + 1, 1 << 32, math.MaxInt} {
		a := voted(t, vote(0, 1, 0, "x"))
		accepts(t, fmt.Sprint("no slot: ", slot), a, of(1, 0), slot, "y", false)
		accepts(t, fmt.Sprint("no slot, a ballot above: ", slot), a, of(2, 0), slot, "y", false)
		accepts(t, fmt.Sprint("no slot, a ballot below: ", slot), a, of(0, 1), slot, "y", false)
		holds(t, fmt.Sprint("no slot: ", slot), a, of(1, 0), vote(0, 1, 0, "x"))
	}
	a := ballot.New()
	var want []api.Vote
	for slot := range api.MaxSlots {
		accepts(t, fmt.Sprint("slot ", slot), a, of(1, 1), slot, fmt.Sprint(slot), true)
		want = append(want, vote(slot, 1, 1, fmt.Sprint(slot)))
	}
	holds(t, "each slot", a, of(1, 1), want...)
}

func TestP7_1_AcceptTwice(t *testing.T) {
	a := voted(t, vote(4, 1, 0, "x"), vote(5, 1, 0, "k"))
	accepts(t, "the same again", a, of(1, 0), 4, "x", true)
	holds(t, "the same again", a, of(1, 0), vote(4, 1, 0, "x"), vote(5, 1, 0, "k"))
	accepts(t, "another value", a, of(1, 0), 4, "y", true)
	holds(t, "another value", a, of(1, 0), vote(4, 1, 0, "y"), vote(5, 1, 0, "k"))
	accepts(t, "another ballot", a, of(3, 2), 4, "", true)
	holds(t, "another ballot", a, of(3, 2), vote(4, 3, 2, ""), vote(5, 1, 0, "k"))
	accepts(t, "a ballot below", a, of(2, 0), 4, "z", false)
}

func TestP7_1_ValuesAreBytes(t *testing.T) {
	for _, v := range []string{"", "\x00", "\xff\xfe", "é", strings.Repeat("v", 1<<17)} {
		a := voted(t, vote(9, 1, 0, v))
		prepares(t, "a value", a, of(2, 0), 9, vote(9, 1, 0, v))
	}
}

func TestP7_1_AcceptorsAreApart(t *testing.T) {
	a, b := ballot.New(), ballot.New()
	accepts(t, "one", a, of(2, 0), 1, "x", true)
	holds(t, "another", b, of(0, 0))
	accepts(t, "another", b, of(1, 0), 1, "y", true)
	holds(t, "one", a, of(2, 0), vote(1, 2, 0, "x"))
	holds(t, "another", b, of(1, 0), vote(1, 1, 0, "y"))
}

// saved answers acceptors of many kinds.
func saved(t *testing.T) []*ballot.Acceptor {
	t.Helper()
	promised := ballot.New()
	prepares(t, "Prepare", promised, of(9, -4), 0)
	greatest := voted(t, vote(3, 1, math.MinInt, "least"), vote(1, math.MaxInt, math.MaxInt, "most"))
	above := voted(t, someVotes()...)
	prepares(t, "Prepare", above, of(3, 3), api.MaxSlots)
	fewer := voted(t, someVotes()...)
	fewer.Forget(100)
	none := voted(t, someVotes()...)
	none.Forget(api.MaxSlots)
	full := ballot.New()
	for slot := api.MaxSlots - 1; slot >= 0; slot-- {
		accepts(t, "each slot", full, of(1, 7), slot, strings.Repeat("\xff", slot%9), true)
	}
	long := voted(t, vote(0, 1, 0, strings.Repeat("\x00", 1<<17)), vote(1, 1, 0, ""), vote(511, 1, 0, strings.Repeat("l", 70000)))
	return []*ballot.Acceptor{ballot.New(), promised, greatest, voted(t, someVotes()...), above, fewer, none, full, long, voted(t, vote(0, 0, 1, ""))}
}

func TestP7_2_LoadOfSave(t *testing.T) {
	for k, a := range saved(t) {
		what := fmt.Sprint("acceptor ", k)
		b := a.Save()
		x := load(t, what, b)
		holds(t, what, x, a.Promised(), a.Votes(0)...)
		holds(t, what+", which was saved", a, x.Promised(), x.Votes(0)...)
		if !bytes.Equal(x.Save(), b) || !bytes.Equal(a.Save(), b) {
			t.Errorf("%s: other bytes when it is saved again", what)
		}
	}
}

func TestP7_2_Example(t *testing.T) {
	a := voted(t, someVotes()...)
	x := load(t, "Load(Save)", a.Save())
	prepares(t, "Load(Save) votes as it did", x, of(4, 0), 7, from(someVotes(), 7)...)
}

// step does the step s of a row: which call it is, and with what.
func step(a *ballot.Acceptor, s int) string {
	b, slot := of(s>>2&3, s>>4&1), (s>>5&3)*170
	switch s & 3 {
	case 0:
		ok, l := a.Prepare(b, slot)
		return fmt.Sprint(ok, l)
	case 1, 2:
		return fmt.Sprint(a.Accept(b, slot, fmt.Sprint(s)))
	}
	a.Forget(slot)
	return fmt.Sprint(a.Votes(slot-1), a.Promised())
}

func TestP7_2_LoadGoesOnAsWhatWasSaved(t *testing.T) {
	r := rand.New(rand.NewSource(7))
	for row := range 2000 {
		a := ballot.New()
		for range r.Intn(12) {
			step(a, r.Intn(256))
		}
		x := load(t, "a row", a.Save())
		for range 12 {
			s := r.Intn(256)
			if got, want := step(x, s), step(a, s); got != want {
				t.Fatalf("row %d, step %d: %s, not %s", row, s, got, want)
			}
		}
		holds(t, "a row's end", x, a.Promised(), a.Votes(0)...)
	}
}

func TestP7_2_SaveGoesOn(t *testing.T) {
	a := voted(t, vote(1, 1, 0, "x"))
	early := a.Save()
	accepts(t, "Accept", a, of(2, 0), 2, "y", true)
	a.Forget(2)
	holds(t, "what was saved", load(t, "early", early), of(1, 0), vote(1, 1, 0, "x"))
	holds(t, "what went on", load(t, "late", a.Save()), of(2, 0), vote(2, 2, 0, "y"))
}

func TestP7_2_LoadOfOtherBytes(t *testing.T) {
	unloaded(t, "nil", nil)
	unloaded(t, "no bytes", []byte{})
	for n := 1; n < 200; n++ {
		unloaded(t, "bytes of all ones", bytes.Repeat([]byte{0xff}, n))
		if zeros := make([]byte, n); !bytes.Equal(zeros, ballot.New().Save()) {
			unloaded(t, "bytes of zero", zeros)
		}
	}
	unloaded(t, "a text", []byte("an acceptor that has promised nothing"))
}

func TestP7_2_LoadCutOff(t *testing.T) {
	for k, a := range saved(t) {
		b := a.Save()
		for n := 0; n < len(b); n += 1 + len(b)/3000 {
			unloaded(t, fmt.Sprintf("acceptor %d, %d of %d bytes", k, n, len(b)), b[:n])
		}
		unloaded(t, fmt.Sprintf("acceptor %d, all but one", k), b[:len(b)-1])
	}
}

func TestP7_2_LoadWithBytesBehind(t *testing.T) {
	for k, a := range saved(t) {
		b := a.Save()
		for _, tail := range []string{"\x00", "\x01", "\xff", "tail", string(b)} {
			unloaded(t, fmt.Sprintf("acceptor %d with %d bytes behind", k, len(tail)), append(slices.Clone(b), tail...))
		}
	}
}

// sound looks whether x is one that calls may lead to: that calls do lead to it, and that it is saved as b.
func sound(t *testing.T, what string, x *ballot.Acceptor, b []byte) {
	t.Helper()
	all := x.Votes(math.MinInt)
	slices.SortFunc(all, func(v, w api.Vote) int {
		return cmp.Or(cmp.Compare(v.B.Round, w.B.Round), cmp.Compare(v.B.Node, w.B.Node))
	})
	again := voted(t, all...)
	if again.Promised() != x.Promised() {
		prepares(t, what, again, x.Promised(), api.MaxSlots)
	}
	holds(t, what, again, x.Promised(), x.Votes(0)...)
	if !bytes.Equal(again.Save(), b) || !bytes.Equal(x.Save(), b) {
		t.Errorf("%s: Load took bytes that no Save gave", what)
	}
}

func TestP7_2_LoadTurned(t *testing.T) {
	taken := 0
	for k, a := range []*ballot.Acceptor{ballot.New(), voted(t, vote(0, 1, 0, "")), voted(t, vote(3, 2, 1, "abc"), vote(200, 3, 0, "defg"), vote(0, 3, 2, ""))} {
		b := a.Save()
		for at := range b {
			for to := range 256 {
				turned := slices.Clone(b)
				turned[at] = byte(to)
				what := fmt.Sprintf("acceptor %d, byte %d turned to %d", k, at, to)
				x, why := ballot.Load(turned)
				if why == api.OK && x != nil {
					sound(t, what, x, turned)
					taken++
					continue
				}
				if x != nil || why != api.ErrForm {
					t.Errorf("%s: %v, %d", what, x != nil, why)
				}
			}
		}
	}
	if taken == 0 {
		t.Error("no byte could be turned: not even that of a value")
	}
}

func TestP7_2_LoadOfWrongVotes(t *testing.T) {
	x, y, z := vote(1, 2, 0, "x"), vote(2, 1, 0, "y"), vote(3, 2, 1, "z")
	right := voted(t, y, x, z)
	if got := right.Save(); !bytes.Equal(got, bytesOf(of(2, 1), 3, x, y, z)) {
		t.Fatalf("another writing than these tests have: % x", got)
	}
	for _, c := range []struct {
		what  string
		count int
		votes []api.Vote
	}{
		{"out of order", 3, []api.Vote{x, z, y}},
		{"falling", 2, []api.Vote{y, x}},
		{"falling to slot 0", 2, []api.Vote{y, vote(0, 2, 0, "o")}},
		{"twice at one slot", 2, []api.Vote{x, x}},
		{"twice at one slot, unlike", 2, []api.Vote{x, vote(1, 1, 0, "other")}},
		{"twice at slot 0", 2, []api.Vote{vote(0, 1, 0, ""), vote(0, 1, 0, "")}},
		{"at MaxSlots", 1, []api.Vote{vote(api.MaxSlots, 1, 0, "")}},
		{"at MaxSlots behind one", 2, []api.Vote{x, vote(api.MaxSlots, 1, 0, "")}},
		{"far behind all", 1, []api.Vote{vote(1<<31, 1, 0, "")}},
		{"at -1", 1, []api.Vote{vote(-1, 1, 0, "")}},
		{"of the ballot {0 0}", 1, []api.Vote{vote(1, 0, 0, "x")}},
		{"of a ballot below {0 0}", 1, []api.Vote{vote(1, 0, -1, "x")}},
		{"of a round below 0", 1, []api.Vote{vote(1, -1, 9, "x")}},
		{"a node above what is promised", 1, []api.Vote{vote(1, 2, 2, "x")}},
		{"a round above what is promised", 2, []api.Vote{x, vote(2, 3, 0, "x")}},
		{"one fewer than it says", 3, []api.Vote{x, y}},
		{"one more than it says", 1, []api.Vote{x, y}},
		{"none, though it says so", 1, nil},
		{"more than MaxSlots", api.MaxSlots + 1, []api.Vote{x}},
		{"as many as there may be", 1<<32 - 1, []api.Vote{x}},
	} {
		unloaded(t, c.what, bytesOf(of(2, 1), c.count, c.votes...))
	}
}

func TestP7_2_LoadOfWrongPromises(t *testing.T) {
	for _, b := range []api.Ballot{of(0, -1), of(-1, 0), of(-1, 9), of(math.MinInt, math.MinInt), of(0, math.MinInt)} {
		unloaded(t, fmt.Sprint("promised ", b), bytesOf(b, 0))
		unloaded(t, fmt.Sprint("promised ", b, " with its vote"), bytesOf(b, 1, api.Vote{Slot: 1, B: b, V: "x"}))
	}
	unloaded(t, "nothing promised, but a vote", bytesOf(of(0, 0), 1, vote(1, 1, 0, "x")))
	unloaded(t, "nothing promised, but a vote of {0 0}", bytesOf(of(0, 0), 1, vote(1, 0, 0, "x")))
	for _, b := range []api.Ballot{of(0, 0), of(0, 1), of(1, 0), of(1, math.MinInt), of(math.MaxInt, math.MaxInt)} {
		holds(t, "promised alone", load(t, fmt.Sprint("promised ", b), bytesOf(b, 0)), b)
	}
}

func TestP7_2_LoadOfAWrongLength(t *testing.T) {
	b := bytesOf(of(1, 0), 1, vote(1, 1, 0, "abc"))
	at := len(b) - 7
	for _, n := range []uint32{0, 1, 2, 4, 5, 7, 8, 1 << 16, 1 << 31, 1<<31 - 1, 1<<32 - 1} {
		wrong := slices.Clone(b)
		binary.BigEndian.PutUint32(wrong[at:], n)
		unloaded(t, fmt.Sprint("a length of ", n), wrong)
	}
	load(t, "the right length", b)
}

// plain is an acceptor that is told in another way than package ballot's: a list of votes, and a row of all that
// was promised.
type plain struct {
	row   []api.Ballot
	votes []api.Vote
}

func below(a, b api.Ballot) bool { return a.Round < b.Round || a.Round == b.Round && a.Node < b.Node }

func (p *plain) promised() api.Ballot { return p.row[len(p.row)-1] }

func (p *plain) prepare(b api.Ballot, least int) (bool, []api.Vote) {
	if !below(p.promised(), b) {
		return false, nil
	}
	p.row = append(p.row, b)
	return true, from(p.votes, least)
}

func (p *plain) accept(b api.Ballot, slot int, v string) bool {
	if below(b, p.promised()) || b == of(0, 0) || slot < 0 || slot > 511 {
		return false
	}
	p.row = append(p.row, b)
	p.votes = slices.DeleteFunc(p.votes, func(w api.Vote) bool { return w.Slot == slot })
	p.votes = append(p.votes, api.Vote{Slot: slot, B: b, V: v})
	return true
}

// both does one call on a and on p, and looks whether they answer alike.
func both(t *testing.T, a *ballot.Acceptor, p *plain, call int, b api.Ballot, slot int, v string) {
	t.Helper()
	switch call {
	case 0:
		got, l := a.Prepare(b, slot)
		want, m := p.prepare(b, slot)
		if got != want || !slices.Equal(l, m) {
			t.Fatalf("Prepare(%v, %d): %t, %v; not %t, %v", b, slot, got, l, want, m)
		}
	case 1:
		if got, want := a.Accept(b, slot, v), p.accept(b, slot, v); got != want {
			t.Fatalf("Accept(%v, %d): %t", b, slot, got)
		}
	case 2:
		a.Forget(slot)
		p.votes = from(p.votes, slot)
	}
	if a.Promised() != p.promised() || !slices.Equal(a.Votes(-1), from(p.votes, -1)) {
		t.Fatalf("call %d of %v at %d: %v, %v; not %v, %v", call, b, slot, a.Promised(), a.Votes(-1), p.promised(), p.votes)
	}
}

func TestP7_3_EveryRow(t *testing.T) {
	ballots := []api.Ballot{of(0, 0), of(0, 1), of(1, 0), of(1, 1), of(2, 0)}
	const length = 3
	kinds := 2 * len(ballots) * 3
	rows := 1
	for range length {
		rows *= kinds
	}
	for row := range rows {
		a, p := ballot.New(), &plain{row: []api.Ballot{{}}}
		for k, rest := 0, row; k < length; k++ {
			s := rest % kinds
			rest /= kinds
			both(t, a, p, s&1, ballots[s/2%len(ballots)], s/2/len(ballots)-1, fmt.Sprint(k))
		}
	}
}

func TestP7_3_LongRows(t *testing.T) {
	r := rand.New(rand.NewSource(3))
	for range 300 {
		a, p := ballot.New(), &plain{row: []api.Ballot{{}}}
		for k := range 100 {
			b := of(k/8+r.Intn(9)-4, r.Intn(5)-1)
			slot := []int{r.Intn(8), r.Intn(520) - 4}[r.Intn(2)]
			last, before := a.Promised(), a.Votes(0)
			both(t, a, p, []int{0, 1, 1, 1, 1, 2}[r.Intn(6)], b, slot, strings.Repeat("v", k%5))
			if ballot.Less(a.Promised(), last) {
				t.Fatalf("what was promised fell from %v to %v", last, a.Promised())
			}
			for _, v := range a.Votes(0) {
				if ballot.Less(v.B, last) && !slices.Contains(before, v) {
					t.Fatalf("a vote of a lower ballot came: %v, with %v promised", v, last)
				}
				if ballot.Less(a.Promised(), v.B) {
					t.Fatalf("a vote above what is promised: %v, %v", v, a.Promised())
				}
			}
			if r.Intn(10) == 0 {
				a = load(t, "in the midst of a row", a.Save())
			}
		}
	}
}

func TestP7_3_RisingAndFalling(t *testing.T) {
	a := ballot.New()
	for round := 1; round <= 50; round++ {
		prepares(t, "rising", a, of(round, 2), 0, a.Votes(0)...)
		for _, b := range []api.Ballot{of(round, 1), of(round-1, 9), of(round/2, 0), of(-round, 0)} {
			refuses(t, "falling", a, b, 0)
			accepts(t, "falling", a, b, round, "low", false)
		}
		accepts(t, "rising", a, of(round, 2), round, "high", true)
		accepts(t, "falling", a, of(round, 1), round, "low", false)
	}
	if l := a.Votes(0); len(l) != 50 {
		t.Errorf("%d votes", len(l))
	}
}

func TestR2_Votes(t *testing.T) {
	a := voted(t, someVotes()...)
	want := from(someVotes(), 0)
	l, again := a.Votes(0), a.Votes(0)
	l[0].V, l[1], l[2].B.Round = "spoilt", api.Vote{}, 99
	spoil(l)
	holds(t, "Votes was written to", a, of(3, 2), want...)
	if !slices.Equal(again, want) {
		t.Errorf("two answers of Votes share memory: %v", again)
	}
	accepts(t, "Accept", a, of(9, 0), 0, "new", true)
	a.Forget(7)
	if !slices.Equal(again, want) {
		t.Errorf("Accept and Forget turned what Votes had answered: %v", again)
	}
}

// spoil writes to a list and to the room behind it.
func spoil(l []api.Vote) {
	l = l[:cap(l)]
	for k := range l {
		l[k] = vote(k, 77, 7, "spoilt")
	}
}

func TestR2_Prepare(t *testing.T) {
	a := voted(t, someVotes()...)
	want := from(someVotes(), 0)
	_, l := a.Prepare(of(4, 0), 0)
	_, again := a.Prepare(of(5, 0), 0)
	spoil(l)
	holds(t, "Prepare's answer was written to", a, of(5, 0), want...)
	if !slices.Equal(again, want) {
		t.Errorf("two answers of Prepare share memory: %v", again)
	}
	accepts(t, "Accept", a, of(5, 0), 0, "new", true)
	a.Forget(7)
	if !slices.Equal(again, want) {
		t.Errorf("Accept and Forget turned what Prepare had answered: %v", again)
	}
}

func TestR2_Save(t *testing.T) {
	a := voted(t, someVotes()...)
	b, again := a.Save(), a.Save()
	for k := range b[:cap(b)] {
		b[:cap(b)][k] = 0xff
	}
	holds(t, "Save's answer was written to", a, of(3, 2), from(someVotes(), 0)...)
	if !bytes.Equal(a.Save(), again) {
		t.Error("two answers of Save share memory")
	}
	load(t, "saved beside", again)
}

func TestR2_Load(t *testing.T) {
	b := voted(t, someVotes()...).Save()
	room := append(slices.Clone(b), "room behind"...)
	x := load(t, "with room behind", room[:len(b)])
	if string(room) != string(b)+"room behind" {
		t.Error("Load turned its bytes")
	}
	for k := range room {
		room[k] = 0xff
	}
	holds(t, "Load's bytes were written to", x, of(3, 2), from(someVotes(), 0)...)
	if !bytes.Equal(x.Save(), b) {
		t.Error("Load's bytes were written to: other bytes when it is saved")
	}
	unloaded(t, "what is short has room behind", b[:len(b)-1])
	y, z := load(t, "one", b), load(t, "another", b)
	accepts(t, "one", y, of(9, 0), 0, "new", true)
	y.Forget(300)
	holds(t, "another of the same bytes", z, of(3, 2), from(someVotes(), 0)...)
}
