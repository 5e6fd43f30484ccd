package ranges_test

import (
	"fmt"
	"math"
	"math/rand"
	"testing"

	"conclave/api"
	"conclave/ranges"
	"conclave/sum"
)

func TestP17_1_Right(t *testing.T) {
	for _, m := range rights(t) {
		if !ranges.Right(m) {
			t.Errorf("%v is not Right", m)
		}
	}
	for what, m := range wrongs() {
		if ranges.Right(m) {
			t.Errorf("%s: %v is Right", what, m)
		}
	}
}

func TestP17_1_RightEpochs(t *testing.T) {
	for epoch, want := range map[int]bool{math.MinInt: false, -1: false, 0: false, 1: true, 2: true, 1<<30 - 1: true, 1 << 30: true, 1<<30 + 1: false, 1 << 31: false, math.MaxInt: false} {
		for _, l := range [][]int{{0, 256, 0}, {0, 128, 0, 128, 256, 1}, {0, 1, 2, 1, 256, 0}} {
			if got := ranges.Right(of(epoch, l...)); got != want {
				t.Errorf("Epoch %d, %v: %t", epoch, l, got)
			}
		}
	}
}

// Two Parts, of which each number is turned through all that it may nearly be.
func TestP17_1_RightNumbers(t *testing.T) {
	for k, lists := range map[int][]int{0: {-1, 0, 1, 9}, 1: {-1, 0, 8, 9, 10, 256}, 2: {-2, -1, 0, 1, 2, 3, 4}, 3: {0, 8, 9, 10, 256}, 4: {0, 9, 255, 256, 257, 512}, 5: {-2, -1, 0, 1, 2, 3, 4}} {
		for _, n := range lists {
			l := []int{0, 9, 0, 9, 256, 1}
			l[k] = n
			if m := of(1, l...); ranges.Right(m) != right(m) {
				t.Errorf("%v: %t", m, ranges.Right(m))
			}
		}
	}
}

func TestP17_1_RightGroupsComeAgain(t *testing.T) {
	for _, l := range [][]int{{0, 9, 0, 9, 20, 1, 20, 256, 0}, {0, 9, 2, 9, 20, 0, 20, 30, 2, 30, 256, 0}, {0, 1, 0, 1, 2, 1, 2, 3, 2, 3, 4, 0, 4, 256, 1}} {
		if !ranges.Right(of(1, l...)) {
			t.Errorf("%v is not Right", l)
		}
	}
}

func TestP17_1_RightOfAny(t *testing.T) {
	r := rand.New(rand.NewSource(17))
	count := map[bool]int{}
	for range 20000 {
		m := anyMap(r)
		want := right(m)
		count[want]++
		if ranges.Right(m) != want {
			t.Fatalf("%v: %t", m, !want)
		}
	}
	if count[true] < 2000 || count[false] < 2000 {
		t.Errorf("only %d are Right and %d are not", count[true], count[false])
	}
}

func TestP17_1_New(t *testing.T) {
	for groups, want := range map[int]ranges.Map{1: of(1, 0, 256, 0), 2: of(1, 0, 128, 0, 128, 256, 1), 3: of(1, 0, 85, 0, 85, 170, 1, 170, 256, 2)} {
		if m, why := ranges.New(groups); !sameMap(m, want) || why != api.OK || !ranges.Right(m) {
			t.Errorf("New(%d): %v, %d", groups, m, why)
		}
	}
}

func TestP17_1_NewBegins(t *testing.T) {
	for groups := 1; groups <= api.MaxGroups; groups++ {
		m := begun(t, groups)
		if len(m.Parts) != groups {
			t.Fatalf("New(%d): %v", groups, m)
		}
		for g, p := range m.Parts {
			if p.Group != g || p.Lo != int(math.Floor(256*float64(g)/float64(groups))) {
				t.Errorf("New(%d): %v begins at %d", groups, g, p.Lo)
			}
		}
	}
}

func TestP17_1_NewOfNone(t *testing.T) {
	for _, groups := range []int{math.MinInt, -256, -1, 0, api.MaxGroups + 1, 255, 256, 257, 1<<32 + 1, math.MaxInt} {
		if m, why := ranges.New(groups); !isNone(m) || why != api.ErrArg {
			t.Errorf("New(%d): %v, %d", groups, m, why)
		}
	}
}

// owns looks whether the case is that group's.
func owns(t *testing.T, m ranges.Map, name string, want int) {
	t.Helper()
	if g, ok := ranges.Owner(m, name); g != want || !ok {
		t.Errorf("Owner(%v, %q), whose Hash is %d: %d, %t; not %d", m, name, sum.Hash(name), g, ok, want)
	}
}

func TestP17_1_OwnerAtTheEnds(t *testing.T) {
	all := named()
	for _, m := range rights(t) {
		for _, p := range m.Parts {
			for _, name := range append(all[p.Lo], all[p.Hi-1]...) {
				owns(t, m, name, p.Group)
			}
		}
		for _, k := range []int{0, 1, 2} {
			owns(t, m, all[0][k], m.Parts[0].Group)
			owns(t, m, all[255][k], m.Parts[len(m.Parts)-1].Group)
		}
	}
}

func TestP17_1_OwnerOfEveryHash(t *testing.T) {
	all := named()
	for _, m := range rights(t) {
		for h, g := range laid(m) {
			for _, name := range all[h] {
				owns(t, m, name, g)
			}
		}
	}
}

func TestP17_1_OwnerByMapsThatAreNotRight(t *testing.T) {
	all := named()
	for what, m := range wrongs() {
		for _, h := range []int{0, 1, 5, 8, 9, 10, 128, 250, 254, 255} {
			if g, ok := ranges.Owner(m, all[h][0]); g != 0 || ok {
				t.Errorf("%s: Owner of Hash %d: %d, %t", what, h, g, ok)
			}
		}
	}
}

// The chapter's examples.
func TestP17_1_Examples(t *testing.T) {
	for _, m := range []ranges.Map{{}, {Epoch: 1}, {Epoch: 1, Parts: []ranges.Part{}}} {
		if g, ok := ranges.Owner(m, "a"); g != 0 || ok {
			t.Errorf("%v: %d, %t", m, g, ok)
		}
	}
	for at := range 257 {
		if m, why := ranges.Move(begun(t, 1), at, at, 0); !isNone(m) || why != api.ErrArg {
			t.Errorf("Move of nothing at %d: %v, %d", at, m, why)
		}
	}
}

// The chapter's runs.
func TestP17_2_Runs(t *testing.T) {
	if got := fmt.Sprint(begun(t, 2)); got != "{1 [{0 128 0} {128 256 1}]}" {
		t.Error(got)
	}
	m, why := ranges.Move(begun(t, 1), 0, 256, 0)
	if got := fmt.Sprint(m); got != "{2 [{0 256 0}]}" || why != api.OK {
		t.Error(got, why)
	}
}
