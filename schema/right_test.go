package schema_test

import (
	"math"
	"slices"
	"strings"
	"testing"

	"conclave/api"
	"conclave/schema"
)

// judged looks whether Right answers want.
func judged(t *testing.T, x api.Type, want api.Errno) {
	t.Helper()
	if got := schema.Right(x); got != want {
		t.Errorf("Right(%.300v): %d; not %d", x, got, want)
	}
}

// letters answers n small letters that are no word of the language's own.
func letters(n int) string { return "abcdefghijklmnopqrstuvwxyz"[:n] }

// goodNames: names that look as if they were none.
func goodNames() []string {
	return []string{"x", "z", "loan", letters(api.MaxName - 1), letters(api.MaxName), "types", "typ", "attribute", "stages", "mar", "nota", "ad", "sum", "true"}
}

// badNames: texts that are no names.
func badNames() []string {
	return []string{
		"", letters(api.MaxName + 1), letters(26), strings.Repeat("z", 1<<16),
		"not", "and", "or", "lt", "eq", "add", "sub", "type", "attr", "stage", "mark",
		"A", "Loan", "loaN", "LOAN", "1", "x1", "1x", "-1", " ", " x", "x ", "x y",
		"-", "x-y", "x_y", "x;", ";", "x\t", "\n", "\x00", "x\x00", "é", "\xff",
	}
}

// many answers n names, all of them others.
func many(first byte, n int) []string {
	var all []string
	for i := range n {
		all = append(all, string([]byte{first, byte('a' + i)}))
	}
	return all
}

func TestP13_1_RightTypes(t *testing.T) {
	judged(t, loan(), api.OK)
	judged(t, plain(), api.OK)
	judged(t, api.Type{Name: "a"}, api.OK)
	judged(t, api.Type{Name: "a", Attrs: []api.Attr{}, Stages: []api.Rule{}, Marks: []api.Rule{}}, api.OK)
	judged(t, api.Type{Name: "a", Attrs: attrs("x")}, api.OK)
	judged(t, api.Type{Name: "a", Stages: rules("x")}, api.OK)
	judged(t, api.Type{Name: "a", Marks: rules("x")}, api.OK)
	judged(t, api.Type{}, api.ErrName)
}

func TestP13_1_TheName(t *testing.T) {
	for _, n := range goodNames() {
		x := plain()
		x.Name = n
		judged(t, x, api.OK)
		judged(t, api.Type{Name: n}, api.OK)
	}
	for _, n := range badNames() {
		x := plain()
		x.Name = n
		judged(t, x, api.ErrName)
		judged(t, api.Type{Name: n}, api.ErrName)
	}
}

func TestP13_1_HowMany(t *testing.T) {
	for n := range 3 * api.MaxItems {
		want := api.OK
		if n > api.MaxItems {
			want = api.ErrMany
		}
		full := api.Type{Name: "a", Attrs: attrs(many('x', api.MaxItems)...), Stages: rules(many('y', api.MaxItems)...), Marks: rules(many('z', api.MaxItems)...)}
		for _, x := range []api.Type{{Name: "a"}, plain(), full} {
			one := x
			one.Attrs = attrs(many('x', n)...)
			judged(t, one, want)
			one = x
			one.Stages = rules(many('y', n)...)
			judged(t, one, want)
			one = x
			one.Marks = rules(many('z', n)...)
			judged(t, one, want)
		}
	}
	for _, n := range []int{255, 256, 257, 1 << 16, 1<<16 + 1} {
		judged(t, api.Type{Name: "a", Attrs: make([]api.Attr, n)}, api.ErrMany)
		judged(t, api.Type{Name: "a", Stages: make([]api.Rule, n)}, api.ErrMany)
		judged(t, api.Type{Name: "a", Marks: make([]api.Rule, n)}, api.ErrMany)
	}
}

// called answers x with another name for its item k of all.
func called(x api.Type, k int, name string) api.Type {
	switch {
	case k < len(x.Attrs):
		x.Attrs = slices.Clone(x.Attrs)
		x.Attrs[k].Name = name
	case k < len(x.Attrs)+len(x.Stages):
		x.Stages = slices.Clone(x.Stages)
		x.Stages[k-len(x.Attrs)].Name = name
	default:
		x.Marks = slices.Clone(x.Marks)
		x.Marks[k-len(x.Attrs)-len(x.Stages)].Name = name
	}
	return x
}

func TestP13_1_NamesOfItems(t *testing.T) {
	for k := range schema.Names(plain()) {
		for _, n := range goodNames() {
			judged(t, called(plain(), k, n), api.OK)
		}
		for _, n := range badNames() {
			judged(t, called(plain(), k, n), api.ErrName)
		}
	}
}

// Within each kind, and between each two kinds, whichever of the two comes first.
func TestP13_1_Taken(t *testing.T) {
	x := plain()
	x.Attrs, x.Stages, x.Marks = attrs(many('x', 6)...), rules(many('y', 6)...), rules(many('z', 6)...)
	judged(t, x, api.OK)
	all := schema.Names(x)
	for i := range all {
		for k, n := range all {
			want := api.ErrTaken
			if i == k {
				want = api.OK
			}
			judged(t, called(x, i, n), want)
		}
		judged(t, called(x, i, all[i]+"x"), api.OK)
		judged(t, called(x, i, all[i][:1]), api.OK)
	}
	judged(t, api.Type{Name: "a", Attrs: attrs("x", "x")}, api.ErrTaken)
	judged(t, api.Type{Name: "a", Stages: rules("x", "x")}, api.ErrTaken)
	judged(t, api.Type{Name: "a", Marks: rules("x", "y", "x")}, api.ErrTaken)
	judged(t, api.Type{Name: "a", Attrs: attrs("x"), Stages: rules("x")}, api.ErrTaken)
	judged(t, api.Type{Name: "a", Attrs: attrs("x"), Marks: rules("x")}, api.ErrTaken)
	judged(t, api.Type{Name: "a", Stages: rules("x"), Marks: rules("x")}, api.ErrTaken)
}

func TestP13_1_TheTypesOwnNameIsNotHad(t *testing.T) {
	for k := range schema.Names(plain()) {
		judged(t, called(plain(), k, "t"), api.OK)
	}
	x := called(plain(), 3, "t")
	x.Marks[0].Guard = "t"
	judged(t, x, api.OK)
}

// It is no name for guards either.
func TestP13_1_TheTypesOwnNameInGuards(t *testing.T) {
	x := plain()
	x.Stages[1].Guard = "t"
	judged(t, x, api.ErrName)
}

func TestP13_1_Ranges(t *testing.T) {
	ends := []int{math.MinInt, math.MinInt + 1, -1 << 32, -2000, -1002, -1001, -1000, -999, -2, -1, 0, 1, 2, 999, 1000, 1001, 1002, 2000, 1 << 32, math.MaxInt - 1, math.MaxInt}
	for _, start := range ends {
		for _, lo := range ends {
			for _, hi := range ends {
				want := api.ErrRange
				if slices.IsSorted([]int{-1000, lo, start, hi, 1000}) {
					want = api.OK
				}
				for k := range 2 {
					x := plain()
					x.Attrs[k].Start, x.Attrs[k].Lo, x.Attrs[k].Hi = start, lo, hi
					judged(t, x, want)
				}
			}
		}
	}
}

func TestP13_1_RangesOneByOne(t *testing.T) {
	for _, c := range []struct {
		start, lo, hi int
		want          api.Errno
	}{
		{0, 0, 0, api.OK}, {1000, 1000, 1000, api.OK}, {-1000, -1000, -1000, api.OK}, {0, -1000, 1000, api.OK}, {5, 5, 9, api.OK}, {9, 5, 9, api.OK},
		{4, 5, 9, api.ErrRange}, {10, 5, 9, api.ErrRange}, {7, 9, 5, api.ErrRange}, {9, 9, 5, api.ErrRange}, {5, 9, 5, api.ErrRange}, {1, 1, 0, api.ErrRange},
		{0, -1001, 0, api.ErrRange}, {0, 0, 1001, api.ErrRange}, {1001, 0, 1001, api.ErrRange}, {-1001, -1001, 0, api.ErrRange}, {1001, 1001, 1001, api.ErrRange}, {-1001, -1001, -1001, api.ErrRange},
		{0, math.MinInt, math.MaxInt, api.ErrRange}, {math.MinInt, math.MinInt, 0, api.ErrRange}, {math.MaxInt, 0, math.MaxInt, api.ErrRange}, {0, math.MaxInt, math.MinInt, api.ErrRange},
	} {
		judged(t, api.Type{Name: "a", Attrs: []api.Attr{{Name: "x", Start: c.start, Lo: c.lo, Hi: c.hi}}}, c.want)
	}
	x := api.Type{Name: "a", Attrs: attrs(many('x', api.MaxItems)...)}
	for k := range x.Attrs {
		one := x
		one.Attrs = slices.Clone(x.Attrs)
		one.Attrs[k].Hi = 1001
		judged(t, one, api.ErrRange)
	}
}

// guarded answers x with another guard for its stage or mark k of both.
func guarded(x api.Type, k int, s string) api.Type {
	if k < len(x.Stages) {
		x.Stages = slices.Clone(x.Stages)
		x.Stages[k].Guard = s
		return x
	}
	x.Marks = slices.Clone(x.Marks)
	x.Marks[k-len(x.Stages)].Guard = s
	return x
}

// refused is guards, and why they are refused.
type refused struct {
	why   api.Errno
	texts []string
}

// badGuards: for each refusal, guards of types that have the names a to f.
func badGuards() []refused {
	long := strings.Repeat(" ", api.MaxText)
	return []refused{
		{api.ErrLong, []string{long + "1", "1" + long, long + " ", strings.Repeat("?", api.MaxText+1)}},
		{api.ErrForm, []string{"?", "A", "12345", "-", "type", "mark", "add a ?", "1;2", "a;", "a\tb", letters(api.MaxName + 1), "1 ?"}},
		{api.ErrName, []string{"zz", "t", "not zz", "add a zz", "aa", "1 zz"}},
		{api.ErrDeep, []string{strings.Repeat("not ", api.MaxDeep+1) + "a", strings.Repeat("or ", api.MaxDeep+1) + "1" + strings.Repeat(" 1", api.MaxDeep+1)}},
		{api.ErrTail, []string{"1 1", "a b", "not a b", "1 not", "add a b c"}},
		{api.ErrEnd, []string{"", " ", long, "not", "and a", "add 1 sub 2"}},
	}
}

func TestP13_1_Guards(t *testing.T) {
	deep := strings.Repeat("not ", api.MaxDeep) + "a"
	for k := range 4 {
		for _, s := range []string{"a", "b", "c", "d", "e", "f", "and add a c not e", "  or   b    f ", "0", "-9999", deep, strings.Repeat(" ", api.MaxText-1) + "d"} {
			judged(t, guarded(plain(), k, s), api.OK)
		}
		for _, bad := range badGuards() {
			for _, s := range bad.texts {
				judged(t, guarded(plain(), k, s), bad.why)
			}
		}
	}
}

// A guard may have the name of its own stage or mark, and names that stand behind it.
func TestP13_1_GuardsNameAllKinds(t *testing.T) {
	x := plain()
	all := schema.Names(x)
	for k := range 4 {
		for _, n := range all {
			judged(t, guarded(x, k, "not "+n), api.OK)
		}
	}
	judged(t, api.Type{Name: "t", Stages: []api.Rule{{Name: "x", Guard: "x"}}}, api.OK)
	judged(t, api.Type{Name: "t", Marks: []api.Rule{{Name: "x", Guard: "x"}}}, api.OK)
	judged(t, api.Type{Name: "t", Stages: []api.Rule{{Name: "x", Guard: "y"}}, Marks: []api.Rule{{Name: "y", Guard: "x"}}}, api.OK)
	judged(t, api.Type{Name: "t", Stages: []api.Rule{{Name: "x", Guard: "y"}}}, api.ErrName)
	judged(t, api.Type{Name: "t", Marks: []api.Rule{{Name: "x", Guard: "y"}}}, api.ErrName)
}
