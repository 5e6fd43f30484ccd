package schema_test

import (
	"slices"
	"strconv"
	"testing"

	"conclave/api"
	"conclave/schema"
)

// loan is a type with two of each kind, whose guards name all kinds.
func loan() api.Type {
	return api.Type{
		Name:   "loan",
		Attrs:  []api.Attr{{Name: "sum", Start: 5, Lo: 0, Hi: 100}, {Name: "paid", Start: -3, Lo: -1000, Hi: 1000}},
		Stages: []api.Rule{{Name: "pay", Guard: "lt paid sum"}, {Name: "close", Guard: "and pay not late"}},
		Marks:  []api.Rule{{Name: "late", Guard: "not pay"}, {Name: "done", Guard: "or close late"}},
	}
}

// plain is a type with two of each kind, whose guards name nothing.
func plain() api.Type {
	return api.Type{
		Name:   "t",
		Attrs:  []api.Attr{{Name: "a", Start: 2, Lo: 1, Hi: 3}, {Name: "b", Start: 2, Lo: 1, Hi: 3}},
		Stages: []api.Rule{{Name: "c", Guard: "1"}, {Name: "d", Guard: "2"}},
		Marks:  []api.Rule{{Name: "e", Guard: "3"}, {Name: "f", Guard: "4"}},
	}
}

// names looks whether Names answers want.
func names(t *testing.T, x api.Type, want ...string) {
	t.Helper()
	if got := schema.Names(x); !slices.Equal(got, want) {
		t.Errorf("Names(%v): %.200q; not %.200q", x, got, want)
	}
}

// rules answers rules of these names.
func rules(names ...string) []api.Rule {
	var all []api.Rule
	for _, n := range names {
		all = append(all, api.Rule{Name: n, Guard: "1"})
	}
	return all
}

// attrs answers attributes of these names.
func attrs(names ...string) []api.Attr {
	var all []api.Attr
	for i, n := range names {
		all = append(all, api.Attr{Name: n, Start: i, Lo: -i, Hi: 2 * i})
	}
	return all
}

func TestNames_None(t *testing.T) {
	names(t, api.Type{})
	names(t, api.Type{Name: "loan"})
	names(t, api.Type{Name: "loan", Attrs: []api.Attr{}, Stages: []api.Rule{}, Marks: []api.Rule{}})
}

func TestNames_EachKindAlone(t *testing.T) {
	names(t, api.Type{Name: "x", Attrs: attrs("a")}, "a")
	names(t, api.Type{Name: "x", Attrs: attrs("b", "a", "c")}, "b", "a", "c")
	names(t, api.Type{Name: "x", Stages: rules("a")}, "a")
	names(t, api.Type{Name: "x", Stages: rules("b", "a", "c")}, "b", "a", "c")
	names(t, api.Type{Name: "x", Marks: rules("a")}, "a")
	names(t, api.Type{Name: "x", Marks: rules("b", "a", "c")}, "b", "a", "c")
}

func TestNames_KindsInTheirOrder(t *testing.T) {
	names(t, loan(), "sum", "paid", "pay", "close", "late", "done")
	names(t, api.Type{Attrs: attrs("z", "y"), Stages: rules("x", "w"), Marks: rules("v", "u")}, "z", "y", "x", "w", "v", "u")
	names(t, api.Type{Attrs: attrs("z"), Stages: rules("y")}, "z", "y")
	names(t, api.Type{Attrs: attrs("z"), Marks: rules("y")}, "z", "y")
	names(t, api.Type{Stages: rules("z"), Marks: rules("y")}, "z", "y")
}

func TestNames_TheSameTwice(t *testing.T) {
	names(t, api.Type{Attrs: attrs("a", "a")}, "a", "a")
	names(t, api.Type{Stages: rules("a", "b", "a")}, "a", "b", "a")
	names(t, api.Type{Marks: rules("a", "a")}, "a", "a")
	names(t, api.Type{Name: "a", Attrs: attrs("a"), Stages: rules("a"), Marks: rules("a")}, "a", "a", "a")
}

// Names need not be such, and there may be any number of them.
func TestNames_OfWhatIsNotRight(t *testing.T) {
	names(t, api.Type{Attrs: attrs("", "A b"), Stages: rules("not", "\xff"), Marks: rules("; mark x 1", "")}, "", "A b", "not", "\xff", "; mark x 1", "")
	var all []string
	for n := range 1000 {
		all = append(all, strconv.Itoa(n))
	}
	names(t, api.Type{Attrs: attrs(all...), Stages: rules(all...), Marks: rules(all...)}, slices.Concat(all, all, all)...)
}
