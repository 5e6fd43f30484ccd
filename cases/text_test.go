package cases_test

import (
	"strings"
	"testing"

	"conclave/api"
	"conclave/cases"
)

// tells looks whether Text answers want.
func tells(t *testing.T, x api.Type, s api.State, want string) {
	t.Helper()
	if got := cases.Text(x, s); got != want {
		t.Errorf("Text of %v: %q; not %q", s, got, want)
	}
}

func TestP14_3_Values(t *testing.T) {
	x := typed(t, "type a; attr n 0 -1000 1000; attr b 0 -1000 1000")
	for _, c := range []struct {
		n, b int
		want string
	}{
		{0, 0, "a n=0 b=0"}, {1, -1, "a n=1 b=-1"}, {-1, 1, "a n=-1 b=1"}, {9, 10, "a n=9 b=10"}, {-10, 99, "a n=-10 b=99"},
		{1000, -1000, "a n=1000 b=-1000"}, {-999, 101, "a n=-999 b=101"},
	} {
		tells(t, x, api.State{Type: "a", Vals: []int{c.n, c.b}}, c.want)
	}
}

// Each stage that is done, each mark that is got, in the type's order, by no guard.
func TestP14_3_DoneAndGot(t *testing.T) {
	x := typed(t, "type a; attr n 1 0 9; stage z 0; stage y 1; stage x z; mark w 1; mark v 0; mark u w")
	for bits := range 64 {
		s := full("a", 1, 3, 3)
		s.Vals[0] = 4
		want := "a n=4"
		for i, name := range []string{" +z", " +y", " +x", " *w", " *v", " *u"} {
			if bits>>i&1 == 0 {
				continue
			}
			want += name
			if i < 3 {
				s.Done[i] = true
			} else {
				s.Got[i-3] = true
			}
		}
		tells(t, x, s, want)
	}
}

func TestP14_3_KindsAlone(t *testing.T) {
	tells(t, typed(t, "type a"), api.State{Type: "a"}, "a")
	tells(t, typed(t, "type a; stage s 0"), full("a", 0, 1, 0), "a")
	tells(t, typed(t, "type a; stage s 0"), api.State{Type: "a", Done: []bool{true}}, "a +s")
	tells(t, typed(t, "type a; mark m 0"), full("a", 0, 0, 1), "a")
	tells(t, typed(t, "type a; mark m 0"), api.State{Type: "a", Got: []bool{true}}, "a *m")
	tells(t, typed(t, "type a; attr n 0 0 0"), full("a", 1, 0, 0), "a n=0")
	tells(t, typed(t, "type a; attr a 0 0 0; stage b 0"), api.State{Type: "a", Vals: []int{0}, Done: []bool{true}}, "a a=0 +b")
}

// Six of each, with the longest name.
func TestP14_3_TheGreatest(t *testing.T) {
	long := strings.Repeat("z", 11)
	text, want := "type "+long, long
	for _, c := range "abcdef" {
		text += "; attr " + long + string(c) + " -1000 -1000 0"
		want += " " + long + string(c) + "=-1000"
	}
	for _, c := range "ghijkl" {
		text += "; stage " + long + string(c) + " 1"
		want += " +" + long + string(c)
	}
	for _, c := range "mnopqr" {
		text += "; mark " + long + string(c) + " 1"
		want += " *" + long + string(c)
	}
	x := typed(t, text)
	s := cases.New(x)
	for i := range s.Done {
		s.Done[i] = true
	}
	tells(t, x, s, want)
}

func TestP14_3_Ready(t *testing.T) {
	readies(t, typed(t, "type a"), api.State{Type: "a"})
	readies(t, typed(t, "type a; mark m 1"), full("a", 0, 0, 1))
	x := typed(t, "type a; attr n 0 -9 9; stage z 1; stage y n; stage x not n; stage w z; stage v m; stage u -1; mark m eq n 9")
	s := cases.New(x)
	readies(t, x, s, "z", "x", "u")
	s = goes(t, x, s, set("n", -1), "a n=-1")
	readies(t, x, s, "z", "y", "u")
	s = goes(t, x, s, fire("z"), "a n=-1 +z")
	readies(t, x, s, "y", "w", "u")
	s = goes(t, x, s, set("n", 9), "a n=9 +z *m")
	readies(t, x, s, "y", "w", "v", "u")
	for _, name := range []string{"u", "v", "w", "y"} {
		n, _, why := cases.Apply(x, s, fire(name))
		if why != api.OK {
			t.Fatalf("%s: %d", name, why)
		}
		s = n
	}
	readies(t, x, s)
	s = goes(t, x, s, set("n", 0), "a n=0 +z +y +w +v +u *m")
	readies(t, x, s, "x")
	s = goes(t, x, s, fire("x"), "a n=0 +z +y +x +w +v +u *m")
	readies(t, x, s)
}

func TestP14_3_ReadyAllAndNone(t *testing.T) {
	x := typed(t, "type a; stage f 1; stage e 2; stage d -1; stage c 9999; stage b not 0; stage g 1")
	readies(t, x, cases.New(x), "f", "e", "d", "c", "b", "g")
	y := typed(t, "type a; stage f 0; stage e sub 1 1; stage d not 5")
	readies(t, y, cases.New(y))
	s := cases.New(x)
	for i := range s.Done {
		s.Done[i] = true
	}
	readies(t, x, s)
}

// What is ready hangs on the state as it stands: a mark that is not got yet is 0.
func TestP14_3_ReadyDoesNotSettle(t *testing.T) {
	x := typed(t, "type a; stage s m; stage u not m; mark m 1")
	s := full("a", 0, 2, 1)
	readies(t, x, s, "u")
	tells(t, x, s, "a")
	readies(t, x, cases.New(x), "s")
}
