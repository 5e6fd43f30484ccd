package cases_test

import (
	"math"
	"testing"

	"conclave/api"
	"conclave/cases"
)

// noAttrs: names that are no attributes of loanText's type: its stages, its marks, its own, others and none at all.
func noAttrs() []string {
	return []string{"", "pay", "close", "done", "never", "loan", "su", "sums", "Sum", "sum ", " sum", "sum=5", "zz", "attr", "c"}
}

func TestP14_2_SetAndAddOfNoAttribute(t *testing.T) {
	x := typed(t, loanText)
	s := cases.New(x)
	for _, name := range noAttrs() {
		for _, n := range []int{0, 1, 5, -1, 101, 1001, 2001, -2001, math.MinInt, math.MaxInt} {
			refused(t, x, s, set(name, n), api.NoName)
			refused(t, x, s, add(name, n), api.NoName)
		}
	}
	y := typed(t, "type a; stage s 1; mark m 1")
	for _, name := range []string{"", "a", "s", "m"} {
		refused(t, y, cases.New(y), set(name, 0), api.NoName)
		refused(t, y, cases.New(y), add(name, 0), api.NoName)
	}
}

func TestP14_2_SetAtTheBounds(t *testing.T) {
	x := typed(t, "type a; attr n 0 -7 9; attr o 1000 -1000 1000; attr p -3 -3 -3")
	s := cases.New(x)
	goes(t, x, s, set("n", -7), "a n=-7 o=1000 p=-3")
	goes(t, x, s, set("n", 9), "a n=9 o=1000 p=-3")
	goes(t, x, s, set("n", 0), "a n=0 o=1000 p=-3")
	goes(t, x, s, set("n", 1), "a n=1 o=1000 p=-3")
	goes(t, x, s, set("o", -1000), "a n=0 o=-1000 p=-3")
	goes(t, x, s, set("o", 1000), "a n=0 o=1000 p=-3")
	goes(t, x, s, set("p", -3), "a n=0 o=1000 p=-3")
	for _, a := range x.Attrs {
		for _, n := range []int{a.Lo - 1, a.Hi + 1, 1001, -1001, 1 << 32, math.MinInt, math.MinInt + 1, math.MaxInt - 1, math.MaxInt} {
			refused(t, x, s, set(a.Name, n), api.Bound)
		}
	}
}

// Set is not in the way of a value that N would be added to.
func TestP14_2_SetTwice(t *testing.T) {
	x := typed(t, "type a; attr n 5 0 9")
	s := goes(t, x, cases.New(x), set("n", 8), "a n=8")
	s = goes(t, x, s, set("n", 8), "a n=8")
	goes(t, x, s, set("n", 7), "a n=7")
}

func TestP14_2_AddAtTheBounds(t *testing.T) {
	x := typed(t, "type a; attr n 2 -7 9; attr p -3 -3 -3")
	s := cases.New(x)
	goes(t, x, s, add("n", 0), "a n=2 p=-3")
	goes(t, x, s, add("n", 7), "a n=9 p=-3")
	refused(t, x, s, add("n", 8), api.Bound)
	goes(t, x, s, add("n", -9), "a n=-7 p=-3")
	refused(t, x, s, add("n", -10), api.Bound)
	goes(t, x, s, add("p", 0), "a n=2 p=-3")
	refused(t, x, s, add("p", 1), api.Bound)
	refused(t, x, s, add("p", -1), api.Bound)
	s = goes(t, x, s, add("n", 3), "a n=5 p=-3")
	s = goes(t, x, s, add("n", 4), "a n=9 p=-3")
	s = goes(t, x, s, add("n", -1), "a n=8 p=-3")
	goes(t, x, s, add("n", -15), "a n=-7 p=-3")
}

func TestP14_2_AddOfTheMost(t *testing.T) {
	x := typed(t, "type a; attr n -1000 -1000 1000; attr o 1000 -1000 1000")
	s := cases.New(x)
	goes(t, x, s, add("n", 2000), "a n=1000 o=1000")
	goes(t, x, s, add("o", -2000), "a n=-1000 o=-1000")
	goes(t, x, s, add("n", 1999), "a n=999 o=1000")
	goes(t, x, s, add("o", -1999), "a n=-1000 o=-999")
	for _, n := range []int{2001, 2002, 1 << 32, math.MaxInt - 1000, math.MaxInt - 1, math.MaxInt} {
		refused(t, x, s, add("n", n), api.Bound)
		refused(t, x, s, add("n", -n), api.Bound)
		refused(t, x, s, add("o", n), api.Bound)
		refused(t, x, s, add("o", -n), api.Bound)
	}
	refused(t, x, s, add("n", math.MinInt), api.Bound)
	refused(t, x, s, add("o", math.MinInt), api.Bound)
	refused(t, x, s, add("n", -1), api.Bound)
	refused(t, x, s, add("o", 1), api.Bound)
}

// One attribute is turned, whichever it is, and no other.
func TestP14_2_OneOfSeveral(t *testing.T) {
	x := typed(t, "type a; attr b 1 0 9; attr c 2 0 9; attr d 3 0 9; attr e 4 0 9; attr f 5 0 9; attr g 6 0 9")
	for i, a := range x.Attrs {
		for _, o := range []api.Op{set(a.Name, 9), add(a.Name, 9-a.Start)} {
			want := cases.New(x)
			want.Vals[i] = 9
			goes(t, x, cases.New(x), o, cases.Text(x, want))
		}
	}
}

func TestP14_2_FireOfNoStage(t *testing.T) {
	x := typed(t, loanText)
	s := cases.New(x)
	for _, name := range []string{"", "sum", "paid", "late", "done", "warned", "never", "loan", "pa", "pays", "Pay", "pay ", "zz", "stage", "c"} {
		refused(t, x, s, fire(name), api.NoStage)
	}
	y := typed(t, "type a; attr n 1 0 9; mark m 1")
	for _, name := range []string{"", "a", "n", "m"} {
		refused(t, y, cases.New(y), fire(name), api.NoStage)
	}
}

func TestP14_2_FireByItsGuard(t *testing.T) {
	x := typed(t, "type a; stage b 0; stage c 1; stage d -1; stage e 9999; stage f sub 2 2; stage g sub 2 3")
	s := cases.New(x)
	refused(t, x, s, fire("b"), api.NoStage)
	refused(t, x, s, fire("f"), api.NoStage)
	goes(t, x, s, fire("c"), "a +c")
	goes(t, x, s, fire("d"), "a +d")
	goes(t, x, s, fire("e"), "a +e")
	goes(t, x, s, fire("g"), "a +g")
}

// N counts for nothing.
func TestP14_2_FireWhateverNIs(t *testing.T) {
	x := typed(t, "type a; stage s 1")
	for _, n := range []int{-1, 1, 5, 2001, math.MinInt, math.MaxInt} {
		goes(t, x, cases.New(x), api.Op{Kind: api.Fire, Name: "s", N: n}, "a +s")
	}
}

func TestP14_2_FireOfWhatIsDone(t *testing.T) {
	x := typed(t, "type a; stage s 1; stage u 1; stage v not v")
	s := cases.New(x)
	for _, step := range []struct{ name, want string }{{"u", "a +u"}, {"v", "a +u +v"}, {"s", "a +s +u +v"}} {
		s = goes(t, x, s, fire(step.name), step.want)
		refused(t, x, s, fire(step.name), api.NoStage)
	}
}

func TestP14_2_FireWhereAnotherStageMakesItSo(t *testing.T) {
	x := typed(t, "type a; stage s u; stage u 1; stage v not u")
	s := cases.New(x)
	refused(t, x, s, fire("s"), api.NoStage)
	goes(t, x, s, fire("v"), "a +v")
	s = goes(t, x, s, fire("u"), "a +u")
	refused(t, x, s, fire("v"), api.NoStage)
	goes(t, x, s, fire("s"), "a +s +u")
}

func TestP14_2_FireWhereAMarkMakesItSo(t *testing.T) {
	x := typed(t, "type a; attr n 0 0 9; stage s m; stage u not m; mark m eq n 5")
	s := cases.New(x)
	refused(t, x, s, fire("s"), api.NoStage)
	goes(t, x, s, fire("u"), "a n=0 +u")
	s = goes(t, x, s, set("n", 5), "a n=5 *m")
	refused(t, x, s, fire("u"), api.NoStage)
	goes(t, x, s, fire("s"), "a n=5 +s *m")
}

func TestP14_2_FireWhereAnAttributeMakesItSo(t *testing.T) {
	x := typed(t, "type a; attr n 5 -9 9; stage s lt n 5; stage u sub n 5")
	s := cases.New(x)
	refused(t, x, s, fire("s"), api.NoStage)
	refused(t, x, s, fire("u"), api.NoStage)
	s = goes(t, x, s, add("n", -1), "a n=4")
	goes(t, x, s, fire("s"), "a n=4 +s")
	goes(t, x, s, fire("u"), "a n=4 +u")
	s = goes(t, x, s, set("n", 6), "a n=6")
	refused(t, x, s, fire("s"), api.NoStage)
	goes(t, x, s, fire("u"), "a n=6 +u")
}

// A state that fits need not be settled: a guard sees it as it is, and settling comes behind.
func TestP14_2_SettledBehindEach(t *testing.T) {
	x := typed(t, "type a; attr n 0 0 9; stage s m; stage u 1; mark k m; mark m 1")
	s := full("a", 1, 2, 2)
	refused(t, x, s, fire("s"), api.NoStage)
	goes(t, x, s, fire("u"), "a n=0 +u *k *m")
	goes(t, x, s, set("n", 0), "a n=0 *k *m")
	goes(t, x, s, add("n", 3), "a n=3 *k *m")
}

// Settling behind an operation goes by what it left, in order, round for round.
func TestP14_2_SettledByWhatIsLeft(t *testing.T) {
	x := typed(t, "type a; attr n 0 -9 9; stage s 1; mark h k; mark j not k; mark k eq n 4; mark l and s h; mark m eq n 5")
	s := cases.New(x)
	tells(t, x, s, "a n=0 *j")
	goes(t, x, s, fire("s"), "a n=0 +s *j")
	s = goes(t, x, s, add("n", 4), "a n=4 *h *j *k")
	s = goes(t, x, s, add("n", 1), "a n=5 *h *j *k *m")
	goes(t, x, s, fire("s"), "a n=5 +s *h *j *k *l *m")
	y := typed(t, "type a; attr n 0 0 9; mark k and m not j; mark m n; mark j n")
	goes(t, y, cases.New(y), set("n", 1), "a n=1 *m *j")
}

func TestP14_2_Read(t *testing.T) {
	x := typed(t, loanText)
	for bits := range 256 {
		s := cases.New(x)
		s.Vals = []int{bits % 101, bits%21 - 10, bits % 2}
		for i := range 4 {
			s.Done[i], s.Got[i] = bits>>i&1 > 0, bits>>(4+i)&1 > 0
		}
		n, text, why := cases.Apply(x, s, read())
		if why != api.OK || told(n) != told(s) || text != cases.Text(x, s) {
			t.Errorf("Read of %v: %v, %q, %d", s, n, text, why)
		}
	}
}

// Read settles nothing, and Name and N count for nothing.
func TestP14_2_ReadAsItIs(t *testing.T) {
	x := typed(t, "type a; attr n 3 0 9; stage s 1; mark m 1")
	for _, o := range []api.Op{read(), {Kind: api.Read}, {Kind: api.Read, Name: "n", N: 5}, {Kind: api.Read, Name: "zz", N: math.MaxInt}, {Kind: api.Read, Name: "s"}} {
		s := full("a", 1, 1, 1)
		n, text, why := cases.Apply(x, s, o)
		if why != api.OK || told(n) != "{a [0] [false] [false]}" || text != "a n=0" {
			t.Errorf("%v of %v: %v, %q, %d", o, s, n, text, why)
		}
	}
}

// Which case is meant counts for nothing here.
func TestP14_2_TheCaseIsNotAsked(t *testing.T) {
	x := typed(t, "type a; attr n 3 0 9; stage s 1")
	for _, c := range []string{"", "a", "n", "s", "?", "zz"} {
		s := cases.New(x)
		goes(t, x, s, api.Op{Kind: api.Set, Case: c, Name: "n", N: 4}, "a n=4")
		goes(t, x, s, api.Op{Kind: api.Add, Case: c, Name: "n", N: 4}, "a n=7")
		goes(t, x, s, api.Op{Kind: api.Fire, Case: c, Name: "s"}, "a n=3 +s")
		refused(t, x, s, api.Op{Kind: api.Set, Case: c, Name: "s", N: 4}, api.NoName)
		refused(t, x, s, api.Op{Kind: api.Fire, Case: c, Name: "n"}, api.NoStage)
	}
}

func TestP14_2_Others(t *testing.T) {
	x := typed(t, loanText)
	for _, kind := range []int{math.MinInt, -1 << 32, -5, -1, 0, api.Create, 6, 7, 1<<8 + 2, 1<<32 + 2, math.MaxInt} {
		for _, name := range []string{"", "loan", "sum", "pay", "done", "zz"} {
			for _, n := range []int{0, 1, 101, math.MaxInt} {
				refused(t, x, cases.New(x), api.Op{Kind: kind, Name: name, N: n}, api.ErrArg)
			}
		}
	}
}

// Each operation has its own refusal: a name of another kind is none.
func TestP14_2_WhichRefusal(t *testing.T) {
	x := typed(t, "type a; attr n 1 0 9; stage s 1; mark m 1")
	s := cases.New(x)
	for _, c := range []struct {
		name           string
		set, add, fire api.Errno
	}{{"n", api.Bound, api.Bound, api.NoStage}, {"s", api.NoName, api.NoName, api.OK}, {"m", api.NoName, api.NoName, api.NoStage}, {"a", api.NoName, api.NoName, api.NoStage}, {"", api.NoName, api.NoName, api.NoStage}} {
		refused(t, x, s, set(c.name, 10), c.set)
		refused(t, x, s, add(c.name, 2001), c.add)
		if c.fire != api.OK {
			refused(t, x, s, fire(c.name), c.fire)
		}
	}
}
