package cases_test

import (
	"fmt"
	"slices"
	"testing"

	"conclave/api"
	"conclave/cases"
	"conclave/schema"
)

// loanText is a type whose guards name attributes, stages and marks, ahead of them and behind them.
const loanText = "type loan; attr sum 5 0 100; attr paid -3 -10 10; attr late 0 0 1;" +
	"stage pay lt paid sum; stage warn late; stage close and pay not warned; stage odd sub sum 9;" +
	"mark done or close over; mark warned warn; mark over lt sum paid; mark never 0"

// typed answers the type that s tells.
func typed(t testing.TB, s string) api.Type {
	t.Helper()
	x, why, at := schema.Read(s)
	if why != api.OK {
		t.Fatalf("%s: %d at %d", s, why, at)
	}
	return x
}

// told answers s in words, in which nil and empty lists are the same.
func told(s api.State) string { return fmt.Sprint(s) }

// nothing is a zero State in words.
const nothing = "{ [] [] []}"

func set(name string, n int) api.Op { return api.Op{Kind: api.Set, Case: "c", Name: name, N: n} }

func add(name string, n int) api.Op { return api.Op{Kind: api.Add, Case: "c", Name: name, N: n} }

func fire(name string) api.Op { return api.Op{Kind: api.Fire, Case: "c", Name: name} }

func read() api.Op { return api.Op{Kind: api.Read, Case: "c"} }

// goes looks whether o is done to s, and answers what it leaves, of which the text is want.
func goes(t *testing.T, x api.Type, s api.State, o api.Op, want string) api.State {
	t.Helper()
	was := told(s)
	n, text, why := cases.Apply(x, s, o)
	if why != api.OK || text != "" {
		t.Fatalf("%v of %v: %d, %q; not OK, nothing", o, s, why, text)
	}
	if got := cases.Text(x, n); got != want {
		t.Errorf("%v of %v: %s; not %s", o, s, got, want)
	}
	if !cases.Fits(x, n) {
		t.Errorf("%v of %v: %v, which does not fit", o, s, n)
	}
	if told(s) != was {
		t.Errorf("%v turned %s to %v", o, was, s)
	}
	return n
}

// refused looks whether o is refused of s with want, and leaves nothing.
func refused(t *testing.T, x api.Type, s api.State, o api.Op, want api.Errno) {
	t.Helper()
	was := told(s)
	n, text, why := cases.Apply(x, s, o)
	if why != want || told(n) != nothing || text != "" {
		t.Errorf("%v of %v: %v, %q, %d; not %d alone", o, s, n, text, why, want)
	}
	if told(s) != was {
		t.Errorf("%v turned %s to %v", o, was, s)
	}
}

// begins looks whether a new case of the type that s tells has the text want, and that it is settled.
func begins(t *testing.T, s, want string) {
	t.Helper()
	x := typed(t, s)
	n := cases.New(x)
	if got := cases.Text(x, n); got != want {
		t.Errorf("New of %s: %s; not %s", s, got, want)
	}
	if !cases.Fits(x, n) {
		t.Errorf("New of %s: %v, which does not fit", s, n)
	}
}

// readies looks whether Ready answers want.
func readies(t *testing.T, x api.Type, s api.State, want ...string) {
	t.Helper()
	if got := cases.Ready(x, s); !slices.Equal(got, want) {
		t.Errorf("Ready of %v: %q; not %q", s, got, want)
	}
}

func TestRun_FireTwice(t *testing.T) {
	x := typed(t, "type loan; attr sum 5 0 100; stage pay lt sum 9")
	s := goes(t, x, cases.New(x), fire("pay"), "loan sum=5 +pay")
	refused(t, x, s, fire("pay"), api.NoStage)
}

func TestRun_TextOfANewLoan(t *testing.T) {
	begins(t, "type loan; attr sum 5 0 100; stage pay lt sum 9", "loan sum=5")
}

func TestExample1_AMarkThatNamesAMark(t *testing.T) {
	begins(t, "type a; mark b 1; mark c b", "a *b *c")
	begins(t, "type a; mark c b; mark b 1", "a *c *b")
	x := typed(t, "type a; attr n 0 0 9; mark b n; mark c b; mark d c")
	goes(t, x, cases.New(x), set("n", 1), "a n=1 *b *c *d")
	y := typed(t, "type a; stage s 1; mark d c; mark c b; mark b s")
	goes(t, y, cases.New(y), fire("s"), "a +s *d *c *b")
}

func TestExample2_AddBeyondHi(t *testing.T) {
	x := typed(t, "type a; attr n 8 0 9; mark big eq n 9")
	s := cases.New(x)
	refused(t, x, s, add("n", 2), api.Bound)
	if got := cases.Text(x, s); got != "a n=8" {
		t.Errorf("it turned: %s", got)
	}
	goes(t, x, s, add("n", 1), "a n=9 *big")
}
