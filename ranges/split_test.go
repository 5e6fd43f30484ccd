package ranges_test

import (
	"fmt"
	"math/rand"
	"testing"

	"conclave/api"
	"conclave/ranges"
)

// reads answers an operation on a case of each Hash of l.
func reads(l ...int) []api.Op {
	all := named()
	var list []api.Op
	for k, h := range l {
		list = append(list, api.Op{Kind: api.Read, Case: all[h][k%3]})
	}
	return list
}

// splits looks whether Split answers these groups and positions.
func splits(t *testing.T, what string, m ranges.Map, l []api.Op, want string) {
	t.Helper()
	groups, places := ranges.Split(m, l)
	if got := fmt.Sprint(groups, places); got != want {
		t.Errorf("%s: %s; not %s", what, got, want)
	}
}

func TestP17_2_Split(t *testing.T) {
	m := of(4, 0, 100, 0, 100, 150, 1, 150, 200, 0, 200, 256, 2)
	for _, c := range []struct {
		what   string
		hashes []int
		want   string
	}{
		{"no operations", nil, "[] []"},
		{"one", []int{100}, "[1] [[0]]"},
		{"one group's", []int{250, 200, 255}, "[2] [[0 1 2]]"},
		{"one group's, of two Parts", []int{160, 20, 199, 0}, "[0] [[0 1 2 3]]"},
		{"two groups'", []int{0, 100, 99, 149}, "[0 1] [[0 2] [1 3]]"},
		{"two groups', the last ahead", []int{255, 100}, "[1 2] [[1] [0]]"},
		{"two groups', one between them has none", []int{255, 150, 200}, "[0 2] [[1] [0 2]]"},
		{"three groups', falling", []int{200, 100, 0}, "[0 1 2] [[2] [1] [0]]"},
		{"three groups', mixed", []int{120, 220, 20, 170, 130, 230, 199}, "[0 1 2] [[2 3 6] [0 4] [1 5]]"},
		{"the same Hash again and again", []int{120, 120, 120, 120, 120}, "[1] [[0 1 2 3 4]]"},
	} {
		splits(t, c.what, m, reads(c.hashes...), c.want)
	}
}

func TestP17_2_SplitOfTheSameCase(t *testing.T) {
	a, b := named()[0][0], named()[255][0]
	var l []api.Op
	for k := range 9 {
		l = append(l, api.Op{Kind: 1 + k%5, Case: []string{b, a, b}[k%3], Name: "n", N: k})
	}
	splits(t, "two cases", begun(t, 2), l, "[0 1] [[1 4 7] [0 2 3 5 6 8]]")
	splits(t, "two cases, one group", begun(t, 1), l, "[0] [[0 1 2 3 4 5 6 7 8]]")
}

// By its Case alone an operation is put to a group, whatever its other fields are.
func TestP17_2_SplitByCasesAlone(t *testing.T) {
	first, last := named()[0][0], named()[255][0]
	splits(t, "odd ones", begun(t, 3), []api.Op{{Case: first}, {Kind: -7, Case: last, Name: first, N: -1}, {Kind: 99, Case: first, Name: last, N: 1 << 40}, {Case: last}}, "[0 2] [[0 2] [1 3]]")
	g, _ := ranges.Owner(begun(t, 3), "")
	splits(t, "the empty name", begun(t, 3), make([]api.Op, 2), fmt.Sprintf("[%d] [[0 1]]", g))
}

func TestP17_2_SplitByMapsThatAreNotRight(t *testing.T) {
	for what, m := range wrongs() {
		for _, l := range [][]api.Op{nil, {}, {{}}, reads(0), reads(0, 5, 9, 128, 255)} {
			splits(t, what, m, l, "[] []")
		}
	}
}

// sorted looks whether groups rise, each has positions that rise, and each operation is in its owner's.
func sorted(t *testing.T, m ranges.Map, l []api.Op) {
	t.Helper()
	groups, places := ranges.Split(m, l)
	if len(groups) != len(places) {
		t.Fatalf("%d groups and %d lists", len(groups), len(places))
	}
	seen := make([]int, len(l))
	for i, g := range groups {
		if i > 0 && groups[i-1] >= g || len(places[i]) == 0 {
			t.Fatalf("%v, %v", groups, places)
		}
		for k, at := range places[i] {
			if k > 0 && places[i][k-1] >= at {
				t.Fatalf("%v, %v", groups, places)
			}
			owns(t, m, l[at].Case, g)
			seen[at]++
		}
	}
	for at, n := range seen {
		if n != 1 {
			t.Fatalf("operation %d is in %d groups", at, n)
		}
	}
}

func TestP17_2_SplitOfAny(t *testing.T) {
	r := rand.New(rand.NewSource(5))
	all := named()
	for range 2000 {
		var l []api.Op
		for range r.Intn(12) {
			l = append(l, api.Op{Case: all[r.Intn(1+r.Intn(256))][r.Intn(3)]})
		}
		sorted(t, anyRight(r), l)
	}
}
