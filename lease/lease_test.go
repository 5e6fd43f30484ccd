package lease_test

import (
	"fmt"
	"math"
	"math/rand"
	"slices"
	"testing"

	"conclave/api"
	"conclave/lease"
)

// top is the latest that a clock may show.
const top = 1 << 30

// at answers the readings of Real and Local in turn.
func at(l ...int) []lease.Reading {
	var all []lease.Reading
	for i := 0; i+1 < len(l); i += 2 {
		all = append(all, lease.Reading{Real: l[i], Local: l[i+1]})
	}
	return all
}

// fair looks whether Fair answers want.
func fair(t *testing.T, what string, l []lease.Reading, rho int, want bool) {
	t.Helper()
	if got := lease.Fair(l, rho); got != want {
		t.Errorf("%s: Fair(%v, %d): %v", what, l, rho, got)
	}
}

// holds looks whether Hold answers want.
func holds(t *testing.T, asked, length, rho, want int) {
	t.Helper()
	if n, why := lease.Hold(asked, length, rho); n != want || why != api.OK {
		t.Errorf("Hold(%d, %d, %d): %d, %d; not %d", asked, length, rho, n, why, want)
	}
}

// bars looks whether Bar answers want.
func bars(t *testing.T, granted, length, want int) {
	t.Helper()
	if n, why := lease.Bar(granted, length); n != want || why != api.OK {
		t.Errorf("Bar(%d, %d): %d, %d; not %d", granted, length, n, why, want)
	}
}

// wrongTimes: no clock shows these, and no lease is as long.
func wrongTimes() []int {
	return []int{math.MinInt, math.MinInt + 1, math.MinInt32, -top, -2, -1, top + 1, top + 2, 1 << 31, 1 << 32, 1 << 40, math.MaxInt - 1, math.MaxInt}
}

// wrongDrifts: no clock drifts so.
func wrongDrifts() []int {
	return []int{math.MinInt, math.MinInt + 1, -1001, -1000, -500, -2, -1, 501, 502, 999, 1000, 1001, math.MaxInt - 1, math.MaxInt}
}

func TestP11_1_FairOfFewReadings(t *testing.T) {
	for _, rho := range []int{0, 1, 499, 500} {
		fair(t, "nil", nil, rho, true)
		fair(t, "empty", []lease.Reading{}, rho, true)
		fair(t, "one", at(5, 9), rho, true)
		fair(t, "one", at(9, 5), rho, true)
		fair(t, "one", at(0, 0), rho, true)
		fair(t, "one", at(0, top), rho, true)
		fair(t, "one", at(top, 0), rho, true)
	}
}

func TestP11_1_FairOfTwoInEitherOrder(t *testing.T) {
	for _, c := range []struct {
		what string
		l    []int
		rho  int
		want bool
	}{
		{"in step", []int{0, 0, 10, 10}, 0, true},
		{"in step, begun late", []int{3, 700, 13, 710}, 0, true},
		{"one ahead", []int{0, 0, 10, 11}, 0, false},
		{"one behind", []int{0, 0, 10, 9}, 0, false},
		{"a tenth ahead", []int{0, 0, 10, 11}, 100, true},
		{"a tenth behind", []int{0, 0, 10, 9}, 100, true},
		{"more than a tenth ahead", []int{0, 0, 10, 12}, 100, false},
		{"more than a tenth behind", []int{0, 0, 10, 8}, 100, false},
		{"more than a tenth ahead, though less than one", []int{0, 0, 9, 10}, 100, false},
		{"more than a tenth behind, though just one", []int{0, 0, 9, 8}, 100, false},
		{"one step, one step", []int{4, 4, 5, 5}, 500, true},
		{"one step, none", []int{4, 4, 5, 4}, 500, false},
		{"one step, two", []int{4, 4, 5, 6}, 500, false},
		{"the same Real and Local", []int{5, 3, 5, 3}, 0, true},
		{"the same Real and Local", []int{5, 3, 5, 3}, 500, true},
		{"the same Real alone", []int{5, 3, 5, 4}, 0, false},
		{"the same Real alone", []int{5, 3, 5, 4}, 500, false},
		{"the same Real alone, far apart", []int{5, 0, 5, top}, 500, false},
		{"Local goes back", []int{0, 5, 10, 0}, 0, false},
		{"Local goes back", []int{0, 5, 10, 0}, 500, false},
		{"Local goes back as fast as Real goes on", []int{0, 10, 10, 0}, 500, false},
		{"Local goes back by one", []int{0, 1, 1, 0}, 500, false},
		{"Local stands", []int{0, 5, 10, 5}, 500, false},
		{"Real stands at its end", []int{top, top, top, top}, 0, true},
		{"from end to end", []int{0, 0, top, top}, 0, true},
		{"from end to end, the wrong way", []int{0, top, top, 0}, 500, false},
	} {
		fair(t, c.what, at(c.l...), c.rho, c.want)
		fair(t, c.what+", turned", at(c.l[2], c.l[3], c.l[0], c.l[1]), c.rho, c.want)
	}
}

// Just at (1000 - rho) and at (1000 + rho) times, and one beyond each.
func TestP11_1_FairAtTheBounds(t *testing.T) {
	for _, rho := range []int{0, 1, 100, 333, 499, 500} {
		for _, thousands := range []int{1, 2, 7, 700_000} {
			least, most := thousands*(1000-rho), thousands*(1000+rho)
			for _, begin := range []int{0, 17} {
				real := begin + 1000*thousands
				for local, want := range map[int]bool{least - 1: false, least: true, least + 1: rho > 0, most - 1: rho > 0, most: true, most + 1: false} {
					if begin+local > top {
						continue
					}
					fair(t, "at a bound", at(begin, begin, real, begin+local), rho, want)
					fair(t, "at a bound, turned", at(real, begin+local, begin, begin), rho, want)
				}
			}
		}
	}
}

func TestP11_1_FairAtTheBoundsFarOut(t *testing.T) {
	for _, c := range []struct {
		real, local, rho int
		want             bool
	}{
		{top, top / 2, 500, true}, {top, top/2 - 1, 500, false}, {top, top/2 + 1, 500, true},
		{top - 1, top / 2, 500, true}, {top - 1, top/2 - 1, 500, false},
		{top, top - 1, 0, false}, {top - 1, top, 0, false}, {top - 1, top - 1, 0, true},
		{top, top - 1073741, 1, true}, {top, top - 1073742, 1, false},
		{715827883, top, 500, true}, {715827882, top, 500, false}, {715827883, top - 1, 500, true}, {715827882, top - 1, 500, true},
		{1, top, 500, false}, {top, 1, 500, false}, {top, 0, 500, false}, {0, top, 500, false},
	} {
		fair(t, "far out", at(0, 0, c.real, c.local), c.rho, c.want)
		fair(t, "far out, turned", at(c.real, c.local, 0, 0), c.rho, c.want)
	}
}

func TestP11_1_FairOfThree(t *testing.T) {
	beside := at(100, 110, 0, 0, 110, 99)
	fair(t, "the first two", beside[:2], 100, true)
	fair(t, "the last two", beside[1:], 100, true)
	fair(t, "the first and the last are not", beside, 100, false)

	ends := at(0, 0, 5, 9, 10, 10)
	fair(t, "the first and the last", []lease.Reading{ends[0], ends[2]}, 100, true)
	fair(t, "two beside one another are not", ends, 100, false)

	fair(t, "the last step is too fast", at(0, 0, 100, 110, 110, 131), 100, false)
	fair(t, "the first step is too fast", at(0, 0, 10, 21, 110, 121), 100, false)
	fair(t, "each step is as fast as may be", at(0, 0, 100, 110, 110, 121), 100, true)
	fair(t, "each step is as slow as may be", at(0, 0, 100, 90, 110, 99), 100, true)
	fair(t, "one as fast and one as slow as may be", at(0, 0, 100, 110, 110, 119), 100, true)
	fair(t, "not in order of Real", at(110, 119, 0, 0, 100, 110), 100, true)
	fair(t, "the same Real thrice", at(5, 3, 5, 3, 5, 3), 0, true)
	fair(t, "the same Real thrice, the midst apart", at(5, 3, 5, 4, 5, 3), 500, false)
	fair(t, "the same Real, with another between", at(5, 5, 9, 9, 5, 6), 500, false)
}

func TestP11_1_FairOfWrongDrifts(t *testing.T) {
	for _, rho := range wrongDrifts() {
		for _, l := range [][]lease.Reading{nil, {}, at(0, 0), at(5, 9), at(0, 0, 10, 10), at(0, 0, 10, 9), at(5, 3, 5, 3)} {
			fair(t, "no drift", l, rho, false)
		}
	}
	for _, rho := range []int{0, 1, 499, 500} {
		fair(t, "a drift", at(0, 0, 10, 10), rho, true)
	}
}

func TestP11_1_FairOfWrongTimes(t *testing.T) {
	for _, rho := range []int{0, 500, -1} {
		for _, n := range wrongTimes() {
			fair(t, "Real, alone", at(n, 0), rho, false)
			fair(t, "Local, alone", at(0, n), rho, false)
			fair(t, "both, alone", at(n, n), rho, false)
			fair(t, "both, first", at(n, n, 0, 0), rho, false)
			fair(t, "both, last", at(0, 0, n, n), rho, false)
			fair(t, "both, in the midst", at(0, 0, n, n, 1, 1), rho, false)
			fair(t, "both, twice", at(n, n, n, n), rho, false)
		}
	}
	for _, n := range []int{0, 1, top - 1, top} {
		fair(t, "an edge", at(n, n), 0, true)
		fair(t, "an edge, twice", at(n, n, n, n), 0, true)
		fair(t, "an edge, and zero", at(n, n, 0, 0), 0, true)
		fair(t, "an edge, and the other", at(n, n, top, top), 0, true)
	}
}

// fairByPairs tells it as the chapter does: each two are held against one another.
func fairByPairs(l []lease.Reading, rho int) bool {
	for _, a := range l {
		for _, b := range l {
			real, local := b.Real-a.Real, b.Local-a.Local
			if real >= 0 && (1000*local < (1000-rho)*real || 1000*local > (1000+rho)*real) {
				return false
			}
		}
	}
	return true
}

func TestP11_1_FairOfAllThrees(t *testing.T) {
	const side = 5
	var l [3]lease.Reading
	for n := range side * side * side * side * side * side {
		for k, left := 0, n; k < 3; k++ {
			l[k] = lease.Reading{Real: left % side, Local: left / side % side}
			left /= side * side
		}
		for _, rho := range []int{0, 250, 333, 334, 500} {
			if got := lease.Fair(l[:], rho); got != fairByPairs(l[:], rho) {
				t.Fatalf("Fair(%v, %d): %v", l, rho, got)
			}
		}
	}
}

func TestP11_1_FairOfLongRows(t *testing.T) {
	r := rand.New(rand.NewSource(11))
	seen := [2]int{}
	for range 4000 {
		rho := r.Intn(501)
		l := clock(r, rho, 2+r.Intn(12))
		if r.Intn(2) > 0 {
			l[r.Intn(len(l))].Local += r.Intn(3) + 1
		}
		r.Shuffle(len(l), func(i, j int) { l[i], l[j] = l[j], l[i] })
		want := fairByPairs(l, rho)
		fair(t, "a row", l, rho, want)
		if want {
			seen[1]++
		} else {
			seen[0]++
		}
	}
	if min(seen[0], seen[1]) < 500 {
		t.Errorf("of one kind there were few: %v", seen)
	}
}

func TestP11_1_Runs(t *testing.T) { holds(t, 100, 90, 100, 173) }

func TestP11_1_Hold(t *testing.T) {
	for _, c := range []struct{ asked, length, rho, want int }{
		{0, 0, 0, 0}, {0, 0, 500, 0}, {7, 0, 0, 7}, {7, 0, 500, 7}, {top, 0, 0, top}, {top, 0, 500, top},
		{5, 10, 0, 15}, {5, 1, 0, 6}, {0, top, 0, top}, {top, top, 0, 1 << 31}, {top - 1, top, 0, 1<<31 - 1},
		{5, 2, 500, 5}, {5, 3, 500, 6}, {5, 4, 500, 6}, {5, 5, 500, 6}, {5, 6, 500, 7}, {5, 10, 500, 8},
		{5, 1, 1, 5}, {5, 1, 500, 5}, {5, 2, 1, 6},
		{0, 1001, 1, 999}, {0, 1000, 1, 998}, {0, 1002, 1, 999}, {0, 2002, 1, 1998},
		{0, 11, 100, 9}, {0, 10, 100, 8}, {0, 12, 100, 9}, {0, 22, 100, 18},
		{0, top, 500, 357913941}, {top, top, 500, top + 357913941}, {top, top, 100, top + 878516037}, {top, top, 1, top + 1071596485},
	} {
		holds(t, c.asked, c.length, c.rho, c.want)
	}
}

// At every rho: the greatest number no greater than the quotient.
func TestP11_1_HoldRoundings(t *testing.T) {
	lengths := []int{999, 1000, 1001, 1499, 1500, 123456789, 1 << 29, top - 1, top}
	for n := range 60 {
		lengths = append(lengths, n)
	}
	for rho := 0; rho <= api.MaxDrift; rho++ {
		for _, length := range lengths {
			for _, asked := range []int{0, 1, 500, top} {
				end, why := lease.Hold(asked, length, rho)
				n := end - asked
				if why != api.OK || n*(1000+rho) > length*(1000-rho) || (n+1)*(1000+rho) <= length*(1000-rho) {
					t.Fatalf("Hold(%d, %d, %d): %d, %d", asked, length, rho, end, why)
				}
			}
		}
	}
}

func TestP11_1_HoldRefuses(t *testing.T) {
	refuses := func(asked, length, rho int) {
		t.Helper()
		if n, why := lease.Hold(asked, length, rho); n != 0 || why != api.ErrArg {
			t.Errorf("Hold(%d, %d, %d): %d, %d; not 0, %d", asked, length, rho, n, why, api.ErrArg)
		}
	}
	for _, n := range wrongTimes() {
		for _, right := range []int{0, 1, 100, top} {
			for _, rho := range []int{0, 1, 500, 501, -1, math.MaxInt} {
				refuses(n, right, rho)
				refuses(right, n, rho)
				refuses(n, n, rho)
			}
		}
	}
	for _, rho := range wrongDrifts() {
		for _, right := range []int{0, 1, 100, top} {
			refuses(right, right, rho)
			refuses(0, right, rho)
			refuses(right, 0, rho)
		}
	}
}

func TestP11_1_Bar(t *testing.T) {
	for _, granted := range []int{0, 1, 2, 5, 999, 1 << 29, top - 1, top} {
		for _, length := range []int{0, 1, 2, 10, 1000, 1 << 29, top - 1, top} {
			bars(t, granted, length, granted+length)
		}
	}
}

func TestP11_1_BarRefuses(t *testing.T) {
	refuses := func(granted, length int) {
		t.Helper()
		if n, why := lease.Bar(granted, length); n != 0 || why != api.ErrArg {
			t.Errorf("Bar(%d, %d): %d, %d; not 0, %d", granted, length, n, why, api.ErrArg)
		}
	}
	for _, n := range wrongTimes() {
		for _, right := range []int{0, 1, 100, top} {
			refuses(n, right)
			refuses(right, n)
		}
		for _, other := range wrongTimes() {
			refuses(n, other)
		}
	}
}

func TestP11_1_Examples(t *testing.T) {
	fair(t, "one reading", at(5, 9), 0, true)
	fair(t, "one reading", at(5, 9), 500, true)
}

// A long row, backwards: it is told soon, and at its very end.
func TestR1_FairOfManyReadings(t *testing.T) {
	const many = 1 << 19
	l := make([]lease.Reading, many)
	for k := range l {
		l[k] = lease.Reading{Real: 2 * (many - k), Local: 3 * (many - k)}
	}
	if !lease.Fair(l, 500) || lease.Fair(l, 499) {
		t.Error("many readings")
	}
	for _, c := range []struct{ at, off int }{{0, 1}, {many / 2, 1}, {many / 2, -1}, {many - 1, -1}} {
		l[c.at].Local += c.off
		if lease.Fair(l, 500) {
			t.Errorf("many readings, of which that at %d is off by %d", c.at, c.off)
		}
		l[c.at].Local -= c.off
	}
	for k := range l {
		l[k] = lease.Reading{Real: 7, Local: 7}
	}
	if !lease.Fair(l, 0) {
		t.Error("the same reading many times")
	}
}

// oddNumbers: right ones, wrong ones, and the ends of the numbers.
func oddNumbers() []int {
	return slices.Concat(wrongTimes(), wrongDrifts(), []int{0, 1, 2, 500, top - 1, top})
}

func TestR1_AnyNumbers(t *testing.T) {
	time := func(n int) bool { return n >= 0 && n <= top }
	for _, a := range oddNumbers() {
		for _, b := range oddNumbers() {
			right := time(a) && time(b)
			if _, why := lease.Bar(a, b); (why == api.OK) != right {
				t.Errorf("Bar(%d, %d): %d", a, b, why)
			}
			for _, rho := range oddNumbers() {
				right := right && rho >= 0 && rho <= 500
				if _, why := lease.Hold(a, b, rho); (why == api.OK) != right {
					t.Errorf("Hold(%d, %d, %d): %d", a, b, rho, why)
				}
				fair(t, "one", at(a, b), rho, right)
				fair(t, "twice the same", at(a, b, a, b), rho, right)
				lease.Fair(at(a, b, b, a), rho)
			}
		}
	}
}

func TestR2_FairTurnsNothing(t *testing.T) {
	for _, rho := range []int{-1, 0, 100, 500, 501} {
		room := at(30, 31, 10, 10, 20, 22, 0, 0, 10, 10, 5, 1, -1, top+1)
		for n := range len(room) + 1 {
			name := fmt.Sprint("the first ", n)
			want := slices.Clone(room)
			got := lease.Fair(room[:n], rho)
			if !slices.Equal(room, want) {
				t.Fatalf("%s of %v, with %d: %v", name, want, rho, room)
			}
			fair(t, name+", without room behind", slices.Clip(slices.Clone(room[:n])), rho, got)
		}
	}
}

// What lies behind the length is not read.
func TestR5_RoomBehind(t *testing.T) {
	room := at(0, 0, 10, 10, 5, 500, -1, -1)
	fair(t, "with room behind", room[:2], 0, true)
	fair(t, "with it", room[:3], 0, false)
	fair(t, "none, with room behind", room[:0], 0, true)
}
