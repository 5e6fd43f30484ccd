package ranges_test

import (
	"math"
	"math/rand"
	"testing"

	"conclave/api"
	"conclave/ranges"
)

// moves looks whether a Move leads to want.
func moves(t *testing.T, m ranges.Map, lo, hi, group int, want ranges.Map) {
	t.Helper()
	if got, why := ranges.Move(m, lo, hi, group); !sameMap(got, want) || why != api.OK {
		t.Errorf("Move(%v, %d, %d, %d): %v, %d; not %v", m, lo, hi, group, got, why, want)
	}
}

func stays(t *testing.T, m ranges.Map, lo, hi, group int, want api.Errno) {
	t.Helper()
	if got, why := ranges.Move(m, lo, hi, group); !isNone(got) || why != want {
		t.Errorf("Move(%v, %d, %d, %d): %v, %d; not %d", m, lo, hi, group, got, why, want)
	}
}

func TestP17_2_Move(t *testing.T) {
	m := of(4, 0, 100, 0, 100, 150, 1, 150, 200, 0, 200, 256, 2)
	for _, c := range []struct {
		what          string
		lo, hi, group int
		want          []int
	}{
		{"that group's already", 100, 150, 1, []int{0, 100, 0, 100, 150, 1, 150, 200, 0, 200, 256, 2}},
		{"within that group's", 20, 30, 0, []int{0, 100, 0, 100, 150, 1, 150, 200, 0, 200, 256, 2}},
		{"a whole Part to a third group", 100, 150, 2, []int{0, 100, 0, 100, 150, 2, 150, 200, 0, 200, 256, 2}},
		{"a whole Part with that group on both sides", 100, 150, 0, []int{0, 200, 0, 200, 256, 2}},
		{"a whole Part with that group ahead", 150, 200, 1, []int{0, 100, 0, 100, 200, 1, 200, 256, 2}},
		{"a whole Part with that group behind", 150, 200, 2, []int{0, 100, 0, 100, 150, 1, 150, 256, 2}},
		{"the first Part", 0, 100, 2, []int{0, 100, 2, 100, 150, 1, 150, 200, 0, 200, 256, 2}},
		{"the first Part, with that group behind", 0, 100, 1, []int{0, 150, 1, 150, 200, 0, 200, 256, 2}},
		{"the last Part", 200, 256, 1, []int{0, 100, 0, 100, 150, 1, 150, 200, 0, 200, 256, 1}},
		{"the last Part, with that group ahead", 200, 256, 0, []int{0, 100, 0, 100, 150, 1, 150, 256, 0}},
		{"the beginning", 100, 110, 2, []int{0, 100, 0, 100, 110, 2, 110, 150, 1, 150, 200, 0, 200, 256, 2}},
		{"the beginning, with that group ahead", 100, 110, 0, []int{0, 110, 0, 110, 150, 1, 150, 200, 0, 200, 256, 2}},
		{"the end", 140, 150, 2, []int{0, 100, 0, 100, 140, 1, 140, 150, 2, 150, 200, 0, 200, 256, 2}},
		{"the end, with that group behind", 140, 150, 0, []int{0, 100, 0, 100, 140, 1, 140, 200, 0, 200, 256, 2}},
		{"the middle", 110, 140, 2, []int{0, 100, 0, 100, 110, 1, 110, 140, 2, 140, 150, 1, 150, 200, 0, 200, 256, 2}},
		{"one Hash", 110, 111, 0, []int{0, 100, 0, 100, 110, 1, 110, 111, 0, 111, 150, 1, 150, 200, 0, 200, 256, 2}},
		{"the first Hash", 0, 1, 1, []int{0, 1, 1, 1, 100, 0, 100, 150, 1, 150, 200, 0, 200, 256, 2}},
		{"the last Hash", 255, 256, 0, []int{0, 100, 0, 100, 150, 1, 150, 200, 0, 200, 255, 2, 255, 256, 0}},
		{"two Parts", 0, 150, 1, []int{0, 150, 1, 150, 200, 0, 200, 256, 2}},
		{"two Parts with that group on both sides", 90, 160, 0, []int{0, 200, 0, 200, 256, 2}},
		{"pieces of several", 50, 220, 1, []int{0, 50, 0, 50, 220, 1, 220, 256, 2}},
		{"pieces of several, the group of the last", 50, 220, 2, []int{0, 50, 0, 50, 256, 2}},
		{"all to the first", 0, 256, 0, []int{0, 256, 0}},
		{"all to another", 0, 256, 1, []int{0, 256, 1}},
		{"all to the last", 0, 256, 2, []int{0, 256, 2}},
		{"all but the first Hash", 1, 256, 2, []int{0, 1, 0, 1, 256, 2}},
		{"all but the last Hash", 0, 255, 1, []int{0, 255, 1, 255, 256, 2}},
	} {
		want := of(5, c.want...)
		if got, why := ranges.Move(m, c.lo, c.hi, c.group); !sameMap(got, want) || why != api.OK {
			t.Errorf("%s: %v, %d; not %v", c.what, got, why, want)
		}
	}
}

func TestP17_2_MoveOfNoHashes(t *testing.T) {
	for _, m := range rights(t) {
		for _, c := range [][2]int{{-1, 5}, {-1, 0}, {-1, -1}, {-2, -1}, {math.MinInt, 5}, {math.MinInt, math.MaxInt}, {0, 0}, {5, 5}, {256, 256}, {6, 5}, {1, 0}, {256, 0}, {5, -1}, {0, 257}, {5, 257}, {255, 257}, {256, 257}, {257, 258}, {257, 256}, {0, 512}, {0, math.MaxInt}, {5, math.MinInt}, {0, 1<<32 + 5}, {1 << 32, 1<<32 + 5}} {
			for group := range api.MaxGroups {
				stays(t, m, c[0], c[1], group, api.ErrArg)
			}
		}
	}
}

func TestP17_2_MoveToNoGroup(t *testing.T) {
	for _, m := range rights(t) {
		for _, group := range []int{math.MinInt, -3, -1, api.MaxGroups, api.MaxGroups + 1, 256, 1 << 32, math.MaxInt} {
			stays(t, m, 0, 5, group, api.ErrArg)
			stays(t, m, 0, 256, group, api.ErrArg)
		}
	}
}

func TestP17_2_MoveOfMapsThatAreNotRight(t *testing.T) {
	for what, m := range wrongs() {
		for _, c := range [][3]int{{0, 5, 0}, {0, 256, 0}, {0, 256, 1}, {9, 10, 2}, {255, 256, 1}, {5, 5, 0}, {0, 5, 3}} {
			if got, why := ranges.Move(m, c[0], c[1], c[2]); !isNone(got) || why != api.ErrArg {
				t.Errorf("%s: Move%v: %v, %d", what, c, got, why)
			}
		}
	}
}

func TestP17_2_MoveAtTheLastEpoch(t *testing.T) {
	for _, l := range [][]int{{0, 256, 0}, {0, 9, 2, 9, 256, 1}} {
		moves(t, of(1, l...), 0, 256, 0, of(2, 0, 256, 0))
		moves(t, of(1<<30-2, l...), 0, 256, 0, of(1<<30-1, 0, 256, 0))
		moves(t, of(1<<30-1, l...), 0, 256, 0, of(1<<30, 0, 256, 0))
		stays(t, of(1<<30, l...), 0, 256, 0, api.ErrRange)
		stays(t, of(1<<30, l...), 3, 4, 1, api.ErrRange)
		stays(t, of(1<<30+1, l...), 0, 256, 0, api.ErrArg)
		stays(t, of(0, l...), 0, 256, 0, api.ErrArg)
	}
}

// ErrArg is named first, whatever is wrong beside the Epoch.
func TestP17_2_MoveRefusesInOrder(t *testing.T) {
	last := of(1<<30, 0, 9, 0, 9, 256, 1)
	stays(t, last, 5, 5, 0, api.ErrArg)
	stays(t, last, 6, 5, 0, api.ErrArg)
	stays(t, last, -1, 5, 0, api.ErrArg)
	stays(t, last, 0, 257, 0, api.ErrArg)
	stays(t, last, 0, 5, -1, api.ErrArg)
	stays(t, last, 0, 5, 3, api.ErrArg)
	stays(t, of(1<<30, 0, 9, 0, 9, 256, 0), 0, 5, 0, api.ErrArg)
	stays(t, last, 0, 5, 0, api.ErrRange)
}

// turned looks whether a Move turned the owner of those within alone, and the Map is the one that tells that.
func turned(t *testing.T, m ranges.Map, lo, hi, group int) ranges.Map {
	t.Helper()
	got, why := ranges.Move(m, lo, hi, group)
	x := laid(m)
	for h := lo; h < hi; h++ {
		x[h] = group
	}
	if want := x.told(m.Epoch + 1); !sameMap(got, want) || why != api.OK || !ranges.Right(got) {
		t.Fatalf("Move(%v, %d, %d, %d): %v, %d; not %v", m, lo, hi, group, got, why, want)
	}
	return got
}

// Every Move of some Maps.
func TestP17_3_EveryMove(t *testing.T) {
	for _, m := range []ranges.Map{begun(t, 1), begun(t, 3), of(9, 0, 10, 0, 10, 20, 1, 20, 30, 0, 30, 40, 2, 40, 256, 0)} {
		for lo := range 256 {
			for hi := lo + 1; hi <= 256; hi++ {
				for group := range api.MaxGroups {
					turned(t, m, lo, hi, group)
				}
			}
		}
	}
	for lo := 0; lo < 256; lo += 3 {
		for hi := lo + 1; hi <= 256; hi += 7 {
			turned(t, every(6), lo, hi, lo%3)
			turned(t, every(6), lo, hi, hi%3)
		}
	}
}

// Long rows of Moves.
func TestP17_3_Rows(t *testing.T) {
	r := rand.New(rand.NewSource(3))
	for range 100 {
		m := begun(t, 1+r.Intn(3))
		for range 200 {
			lo := r.Intn(256)
			m = turned(t, m, lo, lo+1+r.Intn(min(256-lo, 1+r.Intn(256))), r.Intn(3))
		}
		if m.Epoch != 201 {
			t.Errorf("Epoch %d behind 200 Moves", m.Epoch)
		}
	}
}

// Of every Hash the owner ahead of a Move and behind it, as Owner tells it.
func TestP17_3_OwnersAheadAndBehind(t *testing.T) {
	all := named()
	for _, m := range rights(t) {
		if m.Epoch == 1<<30 {
			continue
		}
		for _, c := range [][3]int{{0, 256, 1}, {0, 1, 1}, {255, 256, 0}, {5, 9, 2}, {20, 200, 0}, {128, 129, 2}, {85, 170, 1}, {0, 128, 2}} {
			behind, why := ranges.Move(m, c[0], c[1], c[2])
			if why != api.OK {
				t.Fatalf("Move(%v, %v): %d", m, c, why)
			}
			for h, list := range all {
				for _, name := range list {
					want, _ := ranges.Owner(m, name)
					if h >= c[0] && h < c[1] {
						want = c[2]
					}
					owns(t, behind, name, want)
				}
			}
		}
	}
}

// Each case has one owner, and Split tells the same one.
func TestP17_3_OneOwner(t *testing.T) {
	all := named()
	r := rand.New(rand.NewSource(4))
	for range 100 {
		m := anyRight(r)
		for h, g := range laid(m) {
			name := all[h][r.Intn(3)]
			owns(t, m, name, g)
			groups, places := ranges.Split(m, []api.Op{{Case: name}})
			if len(groups) != 1 || groups[0] != g || len(places) != 1 || len(places[0]) != 1 || places[0][0] != 0 {
				t.Fatalf("Split(%v) of Hash %d: %v, %v; not %d", m, h, groups, places, g)
			}
		}
	}
}
