package cases_test

import (
	"math"
	"testing"

	"conclave/api"
	"conclave/cases"
)

// fits looks whether Fits answers want.
func fits(t *testing.T, x api.Type, s api.State, want bool) {
	t.Helper()
	if got := cases.Fits(x, s); got != want {
		t.Errorf("Fits(%v, %v): %v", x, s, got)
	}
}

// full answers a state of a type with that many of each.
func full(name string, vals, done, got int) api.State {
	return api.State{Type: name, Vals: make([]int, vals), Done: make([]bool, done), Got: make([]bool, got)}
}

func TestFits_TheName(t *testing.T) {
	x := typed(t, loanText)
	fits(t, x, full("loan", 3, 4, 4), true)
	for _, name := range []string{"", "loa", "loans", "Loan", "loan ", "sum", "pay", "done"} {
		fits(t, x, full(name, 3, 4, 4), false)
	}
}

func TestFits_HowMany(t *testing.T) {
	x := typed(t, loanText)
	for vals := range 9 {
		for done := range 9 {
			for got := range 9 {
				fits(t, x, full("loan", vals, done, got), vals == 3 && done == 4 && got == 4)
			}
		}
	}
}

// Of each kind one too few, one too many, where the type has one of it or none.
func TestFits_HowManyOfOneAndNone(t *testing.T) {
	for _, c := range []struct {
		text            string
		vals, done, got int
	}{
		{"type a", 0, 0, 0},
		{"type a; attr n 0 0 0", 1, 0, 0},
		{"type a; stage s 0", 0, 1, 0},
		{"type a; mark m 0", 0, 0, 1},
		{"type a; attr n 0 0 0; mark m 0", 1, 0, 1},
	} {
		x := typed(t, c.text)
		for vals := range 3 {
			for done := range 3 {
				for got := range 3 {
					fits(t, x, full("a", vals, done, got), vals == c.vals && done == c.done && got == c.got)
				}
			}
		}
	}
}

func TestFits_Values(t *testing.T) {
	x := typed(t, "type a; attr b 0 -7 9; attr c -5 -5 -5; attr d 0 -1000 1000")
	for i, a := range x.Attrs {
		for _, c := range []struct {
			n    int
			want bool
		}{
			{a.Lo, true}, {a.Hi, true}, {a.Lo + (a.Hi-a.Lo)/2, true}, {a.Lo - 1, false}, {a.Hi + 1, false},
			{math.MinInt, false}, {math.MaxInt, false}, {a.Lo - 1<<32, false}, {a.Hi + 1<<32, false},
		} {
			s := cases.New(x)
			s.Vals[i] = c.n
			fits(t, x, s, c.want)
		}
	}
}

// What is done and got is free, settled or not.
func TestFits_AnyDoneAnyGot(t *testing.T) {
	x := typed(t, "type a; stage s 0; stage u s; mark m 1; mark k m")
	for bits := range 16 {
		s := full("a", 0, 2, 2)
		s.Done[0], s.Done[1], s.Got[0], s.Got[1] = bits&1 > 0, bits&2 > 0, bits&4 > 0, bits&8 > 0
		fits(t, x, s, true)
	}
}

func TestFits_Nothing(t *testing.T) {
	x := typed(t, "type a")
	fits(t, x, api.State{Type: "a"}, true)
	fits(t, x, full("a", 0, 0, 0), true)
	fits(t, x, api.State{}, false)
	fits(t, typed(t, loanText), api.State{}, false)
	fits(t, typed(t, loanText), api.State{Type: "loan"}, false)
}
