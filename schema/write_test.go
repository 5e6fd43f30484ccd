package schema_test

import (
	"math"
	"slices"
	"strconv"
	"strings"
	"testing"

	"conclave/api"
	"conclave/schema"
)

// writes looks whether Write answers want.
func writes(t *testing.T, x api.Type, want string) {
	t.Helper()
	if got := schema.Write(x); got != want {
		t.Errorf("Write(%.300v): %.300q; not %.300q", x, got, want)
	}
}

// same tells whether two types are the same, none and an empty list too.
func same(a, b api.Type) bool {
	return a.Name == b.Name && slices.Equal(a.Attrs, b.Attrs) && slices.Equal(a.Stages, b.Stages) && slices.Equal(a.Marks, b.Marks)
}

func TestP13_2_WriteNothingButAName(t *testing.T) {
	writes(t, api.Type{Name: "a"}, "type a")
	writes(t, api.Type{Name: "loan", Attrs: []api.Attr{}, Stages: []api.Rule{}, Marks: []api.Rule{}}, "type loan")
	writes(t, api.Type{Name: letters(12)}, "type abcdefghijkl")
}

func TestP13_2_WriteOneOfAKind(t *testing.T) {
	writes(t, api.Type{Name: "a", Attrs: []api.Attr{{Name: "x", Start: 2, Lo: 1, Hi: 3}}}, "type a; attr x 2 1 3")
	writes(t, api.Type{Name: "a", Stages: []api.Rule{{Name: "x", Guard: "1"}}}, "type a; stage x 1")
	writes(t, api.Type{Name: "a", Marks: []api.Rule{{Name: "x", Guard: "not x"}}}, "type a; mark x not x")
}

func TestP13_2_WriteSeveral(t *testing.T) {
	writes(t, loan(), "type loan; attr sum 5 0 100; attr paid -3 -1000 1000; stage pay lt paid sum; stage close and pay not late; mark late not pay; mark done or close late")
	writes(t, plain(), "type t; attr a 2 1 3; attr b 2 1 3; stage c 1; stage d 2; mark e 3; mark f 4")
	writes(t, api.Type{Name: "t", Attrs: attrs("z", "y", "x")}, "type t; attr z 0 0 0; attr y 1 -1 2; attr x 2 -2 4")
	writes(t, api.Type{Name: "t", Stages: rules("z", "y", "x")}, "type t; stage z 1; stage y 1; stage x 1")
	writes(t, api.Type{Name: "t", Marks: rules("z", "y", "x")}, "type t; mark z 1; mark y 1; mark x 1")
	writes(t, api.Type{Name: "t", Attrs: attrs("x"), Marks: rules("y")}, "type t; attr x 0 0 0; mark y 1")
	writes(t, api.Type{Name: "t", Stages: rules("x"), Marks: rules("y")}, "type t; stage x 1; mark y 1")
}

func TestP13_2_WriteNumbers(t *testing.T) {
	for n, want := range map[int]string{
		0: "0", 1: "1", -1: "-1", 9: "9", 10: "10", -10: "-10", 99: "99", 100: "100", 999: "999", 1000: "1000", -1000: "-1000", 1001: "1001", -9999: "-9999", 12345: "12345", -1234567890: "-1234567890",
		math.MaxInt64: "9223372036854775807", math.MinInt64: "-9223372036854775808",
	} {
		writes(t, api.Type{Name: "t", Attrs: []api.Attr{{Name: "x", Start: n, Lo: 7, Hi: 8}}}, "type t; attr x "+want+" 7 8")
		writes(t, api.Type{Name: "t", Attrs: []api.Attr{{Name: "x", Start: 7, Lo: n, Hi: 8}}}, "type t; attr x 7 "+want+" 8")
		writes(t, api.Type{Name: "t", Attrs: []api.Attr{{Name: "x", Start: 7, Lo: 8, Hi: n}}}, "type t; attr x 7 8 "+want)
	}
}

// Guards stand as they are, with their blanks and with what is in no guard.
func TestP13_2_WriteGuards(t *testing.T) {
	for _, s := range []string{"1", "", " ", "   ", " 1", "1 ", "  add   1  2  ", "; mark x 1", "?", "\t", "\x00\xff", "\n", "é", strings.Repeat("not ", 100)} {
		writes(t, api.Type{Name: "t", Stages: []api.Rule{{Name: "x", Guard: s}}}, "type t; stage x "+s)
		writes(t, api.Type{Name: "t", Marks: []api.Rule{{Name: "x", Guard: s}}}, "type t; mark x "+s)
		writes(t, api.Type{Name: "t", Stages: []api.Rule{{Name: "x", Guard: s}}, Marks: []api.Rule{{Name: "y", Guard: s}}}, "type t; stage x "+s+"; mark y "+s)
	}
}

func TestP13_2_WriteWhatIsNotRight(t *testing.T) {
	writes(t, api.Type{}, "type ")
	writes(t, api.Type{Attrs: make([]api.Attr, 1)}, "type ; attr  0 0 0")
	writes(t, api.Type{Stages: make([]api.Rule, 1)}, "type ; stage  ")
	writes(t, api.Type{Marks: make([]api.Rule, 2)}, "type ; mark  ; mark  ")
	for _, n := range badNames() {
		writes(t, api.Type{Name: n}, "type "+n)
		writes(t, api.Type{Name: "t", Attrs: attrs(n)}, "type t; attr "+n+" 0 0 0")
		writes(t, api.Type{Name: "t", Stages: rules(n)}, "type t; stage "+n+" 1")
		writes(t, api.Type{Name: "t", Marks: rules(n, n)}, "type t; mark "+n+" 1; mark "+n+" 1")
	}
	var all []string
	want := "type t"
	for n := range 1000 {
		all = append(all, strconv.Itoa(n))
		want += "; mark " + strconv.Itoa(n) + " 1"
	}
	writes(t, api.Type{Name: "t", Marks: rules(all...)}, want)
}

// back looks whether Read of Write is the type.
func back(t *testing.T, x api.Type) {
	t.Helper()
	judged(t, x, api.OK)
	reads(t, schema.Write(x), x)
}

func TestP13_3_ReadOfWrite(t *testing.T) {
	back(t, loan())
	back(t, plain())
	back(t, api.Type{Name: "a"})
	for _, n := range goodNames() {
		back(t, api.Type{Name: n, Attrs: attrs(n)})
		back(t, api.Type{Name: n, Stages: rules(n)})
		back(t, api.Type{Name: n, Marks: rules(n)})
	}
}

func TestP13_3_EveryNumberOfItems(t *testing.T) {
	for a := range api.MaxItems + 1 {
		for s := range api.MaxItems + 1 {
			for m := range api.MaxItems + 1 {
				back(t, api.Type{Name: "t", Attrs: attrs(many('x', a)...), Stages: rules(many('y', s)...), Marks: rules(many('z', m)...)})
			}
		}
	}
}

func TestP13_3_EveryValue(t *testing.T) {
	for n := -api.MaxValue; n <= api.MaxValue; n++ {
		back(t, api.Type{Name: "t", Attrs: []api.Attr{
			{Name: "x", Start: n, Lo: -api.MaxValue, Hi: api.MaxValue}, {Name: "y", Start: n, Lo: n, Hi: api.MaxValue}, {Name: "z", Start: n, Lo: -api.MaxValue, Hi: n}, {Name: "w", Start: n, Lo: n, Hi: n},
		}})
	}
}

func TestP13_3_BlanksWithinGuards(t *testing.T) {
	for _, s := range []string{"a", "-007", "not a", "and lt a b not c", "sub add a b add e f", strings.Repeat("not ", api.MaxDeep) + "d"} {
		for n := 1; n < 5; n++ {
			wide := strings.ReplaceAll(s, " ", strings.Repeat(" ", n))
			for k := range 4 {
				back(t, guarded(plain(), k, wide))
			}
		}
	}
	full := "not" + strings.Repeat(" ", api.MaxText-4) + "a"
	back(t, guarded(guarded(plain(), 0, full), 3, full))
}

// What the promise leaves out: blanks at the ends of a guard are right, and gone when it is read.
func TestP13_3_BlanksAtTheEndsOfGuards(t *testing.T) {
	for _, c := range []struct{ ahead, behind string }{{" ", ""}, {"", " "}, {" ", " "}, {"   ", "  "}, {strings.Repeat(" ", 100), ""}, {"", strings.Repeat(" ", 100)}} {
		for k := range 4 {
			x := guarded(plain(), k, c.ahead+"not  a"+c.behind)
			judged(t, x, api.OK)
			reads(t, schema.Write(x), guarded(plain(), k, "not  a"))
		}
	}
}

// What Write tells of a type that is not Right is refused, or another type.
func TestP13_3_WhatIsNotRight(t *testing.T) {
	for _, f := range faults() {
		x := plain()
		f.make(&x)
		if got, why, _ := schema.Read(schema.Write(x)); why == api.OK && same(got, x) {
			t.Errorf("Read answers %.300v, which is not Right", got)
		}
	}
}
