package cases_test

import (
	"testing"

	"conclave/cases"
)

func TestP14_1_Starts(t *testing.T) {
	begins(t, "type a", "a")
	begins(t, "type a; attr n -7 -9 9", "a n=-7")
	begins(t, "type a; attr n 0 -9 9", "a n=0")
	begins(t, "type a; attr n 7 -9 9", "a n=7")
	begins(t, "type a; attr n -1000 -1000 1000; attr m 1000 -1000 1000; attr k 3 3 3; attr j 0 0 9", "a n=-1000 m=1000 k=3 j=0")
	begins(t, "type a; attr n 1 1 1; attr m 2 2 2; attr k 3 3 3; attr j 4 4 4; attr i 5 5 5; attr h 6 6 6", "a n=1 m=2 k=3 j=4 i=5 h=6")
}

// A stage is not done at the beginning, whatever its guard is.
func TestP14_1_NothingIsDone(t *testing.T) {
	begins(t, "type a; stage s 1", "a")
	begins(t, "type a; stage s 0; stage u 1; stage v not s", "a")
	begins(t, "type a; attr n 4 0 9; stage s n; mark m 0", "a n=4")
}

func TestP14_1_EachOfIts(t *testing.T) {
	for _, c := range []struct{ text, want string }{
		{"type a", "{a [] [] []}"},
		{"type a; attr n 2 0 9", "{a [2] [] []}"},
		{"type a; stage s 1", "{a [] [false] []}"},
		{"type a; mark m 1", "{a [] [] [true]}"},
		{"type a; mark m 0", "{a [] [] [false]}"},
		{loanText, "{loan [5 -3 0] [false false false false] [false false false false]}"},
	} {
		if got := told(cases.New(typed(t, c.text))); got != c.want {
			t.Errorf("New of %s: %s; not %s", c.text, got, c.want)
		}
	}
}

func TestP14_1_MarksGotAtOnce(t *testing.T) {
	begins(t, "type a; mark m 1", "a *m")
	begins(t, "type a; mark m 0", "a")
	begins(t, "type a; mark m -1", "a *m")
	begins(t, "type a; mark m 9; mark k 0; mark j -9999", "a *m *j")
	begins(t, "type a; mark m sub 3 3; mark k sub 3 4", "a *k")
}

func TestP14_1_MarksThatNameMarks(t *testing.T) {
	begins(t, "type a; mark m 1; mark k m; mark j k", "a *m *k *j")
	begins(t, "type a; mark j k; mark k m; mark m 1", "a *j *k *m")
	begins(t, "type a; mark j k; mark k m; mark m 0", "a")
	begins(t, "type a; mark j and k m; mark m 1; mark k 1", "a *j *m *k")
	begins(t, "type a; mark m k; mark k m", "a")
	begins(t, "type a; mark m m", "a")
	begins(t, "type a; mark m not m", "a *m")
}

// Six rounds get one each, and one more gets none.
func TestP14_1_LongChains(t *testing.T) {
	begins(t, "type a; mark b c; mark c d; mark d e; mark e f; mark f g; mark g 1", "a *b *c *d *e *f *g")
	begins(t, "type a; mark b c; mark c d; mark d e; mark e f; mark f g; mark g 0", "a")
	begins(t, "type a; mark b 1; mark c b; mark d c; mark e d; mark f e; mark g f", "a *b *c *d *e *f *g")
	begins(t, "type a; mark b g; mark c b; mark d not g; mark e c; mark f d; mark g f", "a *b *c *d *e *f *g")
}

// A mark is got in its turn: those behind it see it, those ahead saw that it was not.
func TestP14_1_InOrder(t *testing.T) {
	begins(t, "type a; mark m 1; mark k not m", "a *m")
	begins(t, "type a; mark k not m; mark m 1", "a *k *m")
	begins(t, "type a; mark k not m; mark m not k", "a *k")
	begins(t, "type a; mark k not j; mark m not k; mark j k", "a *k *j")
	begins(t, "type a; mark k and m not j; mark m 1; mark j 1", "a *m *j")
	begins(t, "type a; mark b eq 2 add c d; mark c 1; mark d 1; mark e not b", "a *b *c *d *e")
}

func TestP14_1_MarksThatNameAttributes(t *testing.T) {
	begins(t, "type a; attr n 0 -9 9; mark m n; mark k not n", "a n=0 *k")
	begins(t, "type a; attr n -3 -9 9; mark m n; mark k lt n 0; mark j eq n -3", "a n=-3 *m *k *j")
	begins(t, "type a; attr n 3 -9 9; attr o 4 0 9; mark m lt n o; mark k lt o n; mark j eq 7 add n o", "a n=3 o=4 *m *j")
}

func TestP14_1_MarksThatNameStages(t *testing.T) {
	begins(t, "type a; stage s 1; mark m s; mark k not s; mark j eq s 0", "a *k *j")
	begins(t, "type a; stage s m; mark m not s; mark k and m s", "a *m")
}

// What guards see stands in the order of attributes, stages, marks: each is another number.
func TestP14_1_GuardsSeeEachOfThem(t *testing.T) {
	begins(t, "type a; attr n 3 0 9; attr o 5 0 9; stage s 1; stage u 1;"+
		"mark b eq n 3; mark c eq o 5; mark d eq s 0; mark e eq u 0; mark f eq b 1; mark g eq g 1", "a n=3 o=5 *b *c *d *e *f")
}
