package chain_test

import (
	"math/rand"
	"slices"
	"testing"

	"conclave/chain"
)

// both asks Prefix either way round: which of the two is handed in first does not matter.
func both(t *testing.T, a, b []chain.Link) bool {
	t.Helper()
	got := chain.Prefix(a, b)
	if chain.Prefix(b, a) != got {
		t.Errorf("Prefix of %q and %q hangs on their order", chain.Texts(a), chain.Texts(b))
	}
	return got
}

func TestP19_2_Prefix(t *testing.T) {
	all := rows()
	for i, one := range all {
		for k, other := range all {
			n := min(len(one), len(other))
			want := slices.Equal(one[:n], other[:n])
			if got := both(t, linked(one...), linked(other...)); got != want {
				t.Errorf("Prefix of rows %d and %d: %v", i, k, got)
			}
		}
	}
}

func TestP19_2_PrefixOfParts(t *testing.T) {
	for _, texts := range rows() {
		l := linked(texts...)
		for n := range len(l) + 1 {
			if !both(t, l[:n], l) || !both(t, chain.Make(texts[:n]), l) {
				t.Errorf("%q: the first %d do not begin it", texts, n)
			}
			longer := append(slices.Clone(texts[:n]), "another one")
			if got := both(t, linked(longer...), l); got != (n == len(l)) {
				t.Errorf("%q: the first %d and another one: %v", texts, n, got)
			}
		}
	}
	if !both(t, nil, nil) || !both(t, nil, linked("a")) {
		t.Error("nothing does not begin all")
	}
}

// Links are alike if both their Texts and their Heads are: also where the rest tells that one is wrong.
func TestP19_2_PrefixOfTurned(t *testing.T) {
	l := linked("a", "bb", "", "c")
	for k := range l {
		text := slices.Clone(l)
		text[k].Text += "x"
		empty := slices.Clone(l)
		empty[k].Head = [32]byte{}
		others := [][]chain.Link{text, empty}
		for n := range 32 {
			head := slices.Clone(l)
			head[k].Head[n] ^= 1
			others = append(others, head)
		}
		for n, x := range others {
			if both(t, x, l) || both(t, x[:k+1], l) || both(t, x, l[:k+1]) {
				t.Errorf("Link %d turned (%d): Prefix", k, n)
			}
			if !both(t, x, x) || !both(t, x[:k], l) || !both(t, x, l[:k]) {
				t.Errorf("Link %d turned (%d): no Prefix as far as it is not turned", k, n)
			}
		}
	}
}

// Links of the same Texts behind others are others, by their Heads; a part from the middle begins nothing.
func TestP19_2_PrefixOfMiddles(t *testing.T) {
	l := linked("a", "a", "a", "a")
	for n := 1; n < len(l); n++ {
		if both(t, l[n:], l) {
			t.Errorf("Prefix of the last %d", len(l)-n)
		}
		if !both(t, l[n:], l[n:len(l)-1]) {
			t.Errorf("no Prefix of two parts from the middle that begin alike")
		}
	}
}

func TestP19_2_PrefixOfAnyLinks(t *testing.T) {
	r := rand.New(rand.NewSource(3))
	met := map[bool]int{}
	for range 20000 {
		a, b := anyLinks(r), anyLinks(r)
		if r.Intn(2) == 0 {
			b = append(slices.Clone(a[:r.Intn(len(a)+1)]), b[:r.Intn(len(b)+1)]...)
		}
		want := true
		for k := range a {
			if k < len(b) && (a[k].Text != b[k].Text || a[k].Head != b[k].Head) {
				want = false
			}
		}
		if both(t, a, b) != want {
			t.Fatalf("%v and %v: Prefix %v", a, b, !want)
		}
		met[want]++
	}
	if met[true] < 3000 || met[false] < 3000 {
		t.Errorf("met %v", met)
	}
}

// anyLinks answers a few Links of few kinds: mostly no chain.
func anyLinks(r *rand.Rand) []chain.Link {
	all := make([]chain.Link, r.Intn(5))
	for k := range all {
		all[k].Text = []string{"", "a", "b"}[r.Intn(3)]
		all[k].Head[r.Intn(32)] = byte(r.Intn(2))
	}
	return all
}
