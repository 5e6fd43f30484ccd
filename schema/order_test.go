package schema_test

import (
	"fmt"
	"testing"

	"conclave/api"
)

// fault is one thing that is wrong with a type. Two of one place cannot be made at once.
type fault struct {
	place string
	why   api.Errno
	make  func(x *api.Type)
}

// faultsOfAll: what is wrong ahead of each single item.
func faultsOfAll() []fault {
	return []fault{
		{"name", api.ErrName, func(x *api.Type) { x.Name = "T" }},
		{"attrs", api.ErrMany, func(x *api.Type) { x.Attrs = append(x.Attrs, attrs(many('x', 5)...)...) }},
		{"stages", api.ErrMany, func(x *api.Type) { x.Stages = append(x.Stages, rules(many('y', 5)...)...) }},
		{"marks", api.ErrMany, func(x *api.Type) { x.Marks = append(x.Marks, rules(many('z', 5)...)...) }},
	}
}

// faultsOfAttrs: in the order in which they are told.
func faultsOfAttrs() []fault {
	return []fault{
		{"attr 0", api.ErrName, func(x *api.Type) { x.Attrs[0].Name = "A" }},
		{"range 0", api.ErrRange, func(x *api.Type) { x.Attrs[0].Start = 4 }},
		{"attr 1", api.ErrName, func(x *api.Type) { x.Attrs[1].Name = "" }},
		{"attr 1", api.ErrTaken, func(x *api.Type) { x.Attrs[1].Name = "a" }},
		{"range 1", api.ErrRange, func(x *api.Type) { x.Attrs[1].Lo = -1001 }},
	}
}

// faultsOfRules: of the names of stages and marks, in the order in which they are told.
func faultsOfRules() []fault {
	return []fault{
		{"stage 0", api.ErrName, func(x *api.Type) { x.Stages[0].Name = "not" }},
		{"stage 0", api.ErrTaken, func(x *api.Type) { x.Stages[0].Name = "b" }},
		{"stage 1", api.ErrName, func(x *api.Type) { x.Stages[1].Name = "stage" }},
		{"stage 1", api.ErrTaken, func(x *api.Type) { x.Stages[1].Name = "c" }},
		{"mark 0", api.ErrName, func(x *api.Type) { x.Marks[0].Name = "x y" }},
		{"mark 0", api.ErrTaken, func(x *api.Type) { x.Marks[0].Name = "a" }},
		{"mark 1", api.ErrName, func(x *api.Type) { x.Marks[1].Name = letters(13) }},
		{"mark 1", api.ErrTaken, func(x *api.Type) { x.Marks[1].Name = "e" }},
	}
}

// faultsOfGuards: each refusal of each guard, guard for guard.
func faultsOfGuards() []fault {
	var all []fault
	for k := range 4 {
		for _, bad := range badGuards() {
			for _, s := range bad.texts {
				all = append(all, fault{fmt.Sprint("guard ", k), bad.why, func(x *api.Type) { *x = guarded(*x, k, s) }})
			}
		}
	}
	return all
}

func faults() []fault {
	return append(append(append(faultsOfAll(), faultsOfAttrs()...), faultsOfRules()...), faultsOfGuards()...)
}

func TestP13_1_EachFaultAlone(t *testing.T) {
	for _, f := range faults() {
		x := plain()
		f.make(&x)
		judged(t, x, f.why)
	}
}

func TestP13_1_TheFirstOfTwo(t *testing.T) {
	all := faults()
	for i, first := range all {
		for _, later := range all[i+1:] {
			if later.place == first.place {
				continue
			}
			x := plain()
			first.make(&x)
			later.make(&x)
			judged(t, x, first.why)
			if t.Failed() {
				t.Fatalf("%s, then %s", first.place, later.place)
			}
		}
	}
}

// Of all that may be wrong at once, the first each time that what stood ahead of it is mended.
func TestP13_1_OneBehindTheOther(t *testing.T) {
	all := faults()
	for i := range all {
		x := plain()
		done := map[string]int{}
		for _, f := range all[i:] {
			if done[f.place] == 0 {
				f.make(&x)
			}
			done[f.place]++
		}
		judged(t, x, all[i].why)
	}
}

func TestP13_1_OrderOneByOne(t *testing.T) {
	for _, c := range []struct {
		what string
		turn func(x *api.Type)
		want api.Errno
	}{
		{"a name that is had, and a range that is not", func(x *api.Type) { x.Attrs[1] = api.Attr{Name: "a", Start: 9, Lo: 10, Hi: 8} }, api.ErrTaken},
		{"a name that is none, and a range that is not", func(x *api.Type) { x.Attrs[0] = api.Attr{Name: "A", Start: 9, Lo: 10, Hi: 8} }, api.ErrName},
		{"a range of the first, a name of the second", func(x *api.Type) { x.Attrs[0].Hi, x.Attrs[1].Name = 0, "" }, api.ErrRange},
		{"a range of the last, a name of a stage", func(x *api.Type) { x.Attrs[1].Hi, x.Stages[0].Name = 0, "" }, api.ErrRange},
		{"one name twice, and a range between", func(x *api.Type) { x.Attrs[1].Hi, x.Stages[0].Name = 0, "a" }, api.ErrRange},
		{"a name that is none twice", func(x *api.Type) { x.Stages[0].Name, x.Stages[1].Name = "", "" }, api.ErrName},
		{"a stage's guard, and a mark's name", func(x *api.Type) { x.Stages[0].Guard, x.Marks[1].Name = "?", "a" }, api.ErrTaken},
		{"a stage's guard, and an attribute's range", func(x *api.Type) { x.Stages[0].Guard, x.Attrs[1].Start = "?", 9 }, api.ErrRange},
		{"a stage's guard, and a mark's", func(x *api.Type) { x.Stages[1].Guard, x.Marks[0].Guard = "1 1", "?" }, api.ErrTail},
		{"a mark's guard, and the next one's", func(x *api.Type) { x.Marks[0].Guard, x.Marks[1].Guard = "", "?" }, api.ErrEnd},
		{"too many marks, and a name of an attribute", func(x *api.Type) { x.Marks, x.Attrs[0].Name = make([]api.Rule, 7), "" }, api.ErrMany},
		{"too many stages, and the type's name", func(x *api.Type) { x.Stages, x.Name = make([]api.Rule, 7), "" }, api.ErrName},
		{"a guard with the name that was taken away", func(x *api.Type) { x.Attrs[0].Name, x.Stages[0].Guard = "x", "a" }, api.ErrName},
	} {
		x := plain()
		c.turn(&x)
		judged(t, x, c.want)
		if t.Failed() {
			t.Fatal(c.what)
		}
	}
}
