package guard_test

import (
	"fmt"
	"math/rand"
	"slices"
	"strings"
	"testing"

	"conclave/api"
	"conclave/guard"
)

// odd: texts of all kinds, long ones and such as are no texts among them.
func odd() []string {
	all := append(refused(), wholes()...)
	for _, b := range []string{"a", "1", " ", "-", "?", "\x00", "\n", "\t", "\xff", "not ", "and ", "and 1 ", "1 ", "a ", "é"} {
		for _, n := range []int{1, 2, 3, 5, 13, 16, 17, 30, 60, 120, 121, 1 << 12, 1 << 18} {
			all = append(all, strings.Repeat(b, n))
		}
	}
	return all
}

func TestR1_WhateverIsHandedIn(t *testing.T) {
	lists := [][]string{nil, {}, {""}, {"a"}, {"a", "a"}, {"?", "not", "", " "}, odd()}
	for _, s := range odd() {
		guard.Name(s)
		guard.Uses(s)
		for _, names := range lists {
			why, at := guard.Check(s, names)
			if at < 0 || at > len(s) || why == api.OK && at != 0 {
				t.Errorf("Check(%.60q): %d at %d", s, why, at)
			}
			for _, vals := range [][]int{nil, {}, {1}, {1, 2}, make([]int, len(names)), make([]int, len(names)+1)} {
				n, got := guard.Eval(s, names, vals)
				if want := why; got != want && (want != api.OK || got != api.ErrArg || len(vals) >= len(names)) {
					t.Errorf("Eval(%.60q): %d, and Check %d", s, got, want)
				}
				if got != api.OK && n != 0 {
					t.Errorf("Eval(%.60q): %d beside %d", s, n, got)
				}
			}
		}
	}
}

func TestR1_AnyBytes(t *testing.T) {
	r := rand.New(rand.NewSource(121))
	for range 20000 {
		b := make([]byte, r.Intn(130))
		for i := range b {
			b[i] = byte(r.Intn(256))
		}
		agrees(t, string(b), []string{"a"}, []int{r.Intn(100)})
	}
}

// A name that stands at the end of a long list is found, and found first.
func TestR1_ManyNames(t *testing.T) {
	const many = 1 << 18
	names, vals := make([]string, many), make([]int, many)
	for n := range many {
		names[n], vals[n] = spell(n), n
	}
	evals(t, "sub "+spell(many-1)+" "+spell(many-2), names, vals, 1)
	checks(t, spell(many), names, api.ErrName, 0)
	evals(t, strings.Repeat("or ", 9)+strings.Repeat(spell(many-1)+" ", 9)+"1", names, vals, 1)
	noValue(t, "1", names, vals[:many-1], api.ErrArg)
}

// handedIn: names and vals with room behind their lengths.
func handedIn() ([]string, []int) {
	return []string{"b", "a", "zz", "a", "yy", "xx"}, []int{5, -4, 3, 2, 1, 0}
}

func TestR2_WhatIsHandedInStays(t *testing.T) {
	for _, s := range append(odd(), "add a b", "sub b zz", "yy", "eq xx a") {
		for n := range 6 {
			names, vals := handedIn()
			wantNames, wantVals := handedIn()
			guard.Check(s, names[:n])
			guard.Eval(s, names[:n], vals[:n])
			guard.Eval(s, names[:n], vals[:n/2])
			guard.Eval(s, names[:n/2], vals[:n])
			if !slices.Equal(names, wantNames) || !slices.Equal(vals, wantVals) {
				t.Fatalf("%.60q with %d: %q, %v", s, n, names, vals)
			}
		}
	}
}

func TestR2_WhatIsHandedInIsNotKept(t *testing.T) {
	names, vals := []string{"a", "b"}, []int{1, 2}
	evals(t, "sub a b", names, vals, -1)
	vals[0] = 10
	evals(t, "sub a b", names, vals, 8)
	names[0], names[1] = "b", "a"
	evals(t, "sub a b", names, vals, -8)
	names[1] = "c"
	checks(t, "sub a b", names, api.ErrName, 4)
	evals(t, "sub c b", names, vals, -8)
}

func TestR2_UsesIsNewMemory(t *testing.T) {
	for _, s := range []string{"", "1", "a", "b a", "c b a b", "and lt a 5 not b", strings.Repeat("e d c b a ", 9)} {
		first, second := guard.Uses(s), guard.Uses(s)
		want := fmt.Sprint(first)
		for i := range cap(first) {
			first[:cap(first)][i] = "spoilt"
		}
		if got := fmt.Sprint(second); got != want {
			t.Errorf("Uses(%q) shares memory with an earlier answer: %s", s, got)
		}
		if got := fmt.Sprint(guard.Uses(s)); got != want {
			t.Errorf("Uses(%q) behind a spoilt answer: %s; not %s", s, got, want)
		}
	}
}

// The room behind the lengths is neither a name nor a val.
func TestR5_RoomBehind(t *testing.T) {
	names, vals := handedIn()
	checks(t, "zz", names[:2], api.ErrName, 0)
	checks(t, "a", names[:1], api.ErrName, 0)
	checks(t, "b", names[:0], api.ErrName, 0)
	noValue(t, "zz", names[:3], vals[:2], api.ErrArg)
	noValue(t, "1", names[:1], vals[:0], api.ErrArg)
	evals(t, "zz", names[:3], vals[:3], 3)
}
