package cases_test

import (
	"fmt"
	"math"
	"slices"
	"strconv"
	"strings"
	"testing"

	"conclave/api"
	"conclave/cases"
)

// chained answers n marks, each of which names the next one, and the last one nothing.
func chained(n int) []api.Rule {
	marks := []api.Rule{{Name: "last", Guard: "1"}}
	for i := range n - 1 {
		name := "m" + strings.Map(func(c rune) rune { return c - '0' + 'a' }, strconv.Itoa(i))
		marks = append(marks, api.Rule{Name: name, Guard: marks[i].Name})
	}
	slices.Reverse(marks)
	return marks
}

// wrongTypes: types that are not Right, with very long lists among them.
func wrongTypes() []api.Type {
	all := []api.Type{{}, {Name: "A"}, {Attrs: make([]api.Attr, 3)}, {Marks: []api.Rule{{Guard: "?"}}}}
	for _, n := range []int{1, 2, 6, 7, 1 << 12} {
		all = append(all, api.Type{Name: "a", Attrs: make([]api.Attr, n)}, api.Type{Name: "a", Stages: make([]api.Rule, n)}, api.Type{Name: "a", Marks: make([]api.Rule, n)})
		all = append(all, api.Type{Name: "a", Attrs: make([]api.Attr, n), Stages: make([]api.Rule, n), Marks: make([]api.Rule, n)})
	}
	all = append(all, api.Type{Name: "a", Marks: chained(7)}, api.Type{Name: "a", Marks: chained(1 << 14)})
	for _, guard := range []string{"", " ", "?", "zz", "not", "and s", "1 1", "A", "12345", "\xff", strings.Repeat(" ", 1<<16) + "1", strings.Repeat("not ", 17) + "1"} {
		all = append(all, api.Type{Name: "a", Stages: []api.Rule{{Name: "s", Guard: guard}}, Marks: []api.Rule{{Name: "m", Guard: guard}, {Name: "k", Guard: "1"}}})
	}
	for _, n := range []int{math.MinInt, -1001, 1001, math.MaxInt} {
		all = append(all, api.Type{Name: "a", Attrs: []api.Attr{{Name: "n", Start: n, Lo: n, Hi: n}, {Name: "o", Start: n, Lo: math.MinInt, Hi: math.MaxInt}}})
		all = append(all, api.Type{Name: "a", Attrs: []api.Attr{{Name: "n", Start: n, Lo: 9, Hi: -9}}, Marks: []api.Rule{{Name: "m", Guard: "add n n"}}})
	}
	same := []api.Rule{{Name: "s", Guard: "1"}, {Name: "s", Guard: "not s"}}
	all = append(all, api.Type{Name: "s", Attrs: []api.Attr{{Name: "s", Hi: 9}, {Name: "s", Hi: 5}}, Stages: same, Marks: same})
	return all
}

// rightTypes: some of each kind.
func rightTypes(t *testing.T) []api.Type {
	all := []api.Type{typed(t, loanText)}
	for _, s := range []string{
		"type a", "type a; attr n 0 -9 9", "type a; stage s 1", "type a; mark m 1", "type a; mark k m; mark m 1; stage s k; stage u 0",
		"type a; attr n 1 0 9; attr o 2 0 9; stage s n; mark m eq n 9", "type b; attr n 0 0 0; stage s not s; stage u s; mark m u; mark k s",
	} {
		all = append(all, typed(t, s))
	}
	return all
}

// oddStates: states of all kinds for x: what is new of it, such as are too short and too long, nothing at all, any values.
func oddStates(x api.Type) []api.State {
	vals, done, got := len(x.Attrs), len(x.Stages), len(x.Marks)
	all := []api.State{{}, {Type: x.Name}, cases.New(x), full(x.Name, vals, done, got), full("zz", vals, done, got), full(x.Name, 1<<12, 1<<12, 1<<12)}
	for d := range 27 {
		all = append(all, full(x.Name, max(0, vals+d%3-1), max(0, done+d/3%3-1), max(0, got+d/9-1)))
	}
	for _, n := range []int{math.MinInt, -2001, -1, 1, 2001, math.MaxInt} {
		s := full(x.Name, vals, done, got)
		for i := range s.Vals {
			s.Vals[i] = n
		}
		for i := range s.Done {
			s.Done[i] = true
		}
		for i := range s.Got {
			s.Got[i] = i%2 > 0
		}
		all = append(all, s)
	}
	return all
}

// oddOps: operations of all kinds, and of none.
func oddOps() []api.Op {
	var all []api.Op
	for _, kind := range []int{math.MinInt, -1, 0, api.Create, api.Set, api.Add, api.Fire, api.Read, 6, math.MaxInt} {
		for _, name := range []string{"", "n", "s", "m", "sum", "pay", "zz", strings.Repeat("n", 1<<10)} {
			for _, n := range []int{math.MinInt, -2001, -1, 0, 1, 2000, math.MaxInt} {
				all = append(all, api.Op{Kind: kind, Name: name, N: n})
			}
		}
	}
	return all
}

func TestR1_AnyTypeAnyStateAnyOperation(t *testing.T) {
	ops := oddOps()
	for _, x := range append(wrongTypes(), rightTypes(t)...) {
		for _, s := range oddStates(x) {
			cases.Fits(x, s)
			cases.Text(x, s)
			cases.Ready(x, s)
			for _, o := range ops {
				if n, text, why := cases.Apply(x, s, o); why != api.OK && (told(n) != nothing || text != "") {
					t.Fatalf("%v: %v, %q beside %d", o, n, text, why)
				}
			}
		}
	}
}

// A state of one type, a type of another.
func TestR1_StatesOfOthers(t *testing.T) {
	all := append(wrongTypes(), rightTypes(t)...)
	for _, x := range all {
		for _, y := range all {
			s := cases.New(y)
			cases.Fits(x, s)
			cases.Text(x, s)
			cases.Ready(x, s)
			for _, o := range []api.Op{set("n", 1), add("n", 1), fire("s"), read(), {}} {
				cases.Apply(x, s, o)
			}
		}
	}
}

// roomyType answers x with lists that have room behind their lengths, in which there is something.
func roomyType(x api.Type) api.Type {
	x.Attrs = append(slices.Clone(x.Attrs), api.Attr{Name: "behind", Start: 1, Lo: 1, Hi: 1})[:len(x.Attrs)]
	x.Stages = append(slices.Clone(x.Stages), api.Rule{Name: "ready", Guard: "1"})[:len(x.Stages)]
	x.Marks = append(slices.Clone(x.Marks), api.Rule{Name: "got", Guard: "1"})[:len(x.Marks)]
	return x
}

// roomyState does likewise.
func roomyState(s api.State) api.State {
	s.Vals = append(slices.Clone(s.Vals), 7, 8)[:len(s.Vals)]
	s.Done = append(slices.Clone(s.Done), true, false)[:len(s.Done)]
	s.Got = append(slices.Clone(s.Got), true, false)[:len(s.Got)]
	return s
}

// wholly answers x and s in words, with all the room behind their lists.
func wholly(x api.Type, s api.State) string {
	return fmt.Sprint(x.Name, x.Attrs[:cap(x.Attrs)], x.Stages[:cap(x.Stages)], x.Marks[:cap(x.Marks)],
		s.Type, s.Vals[:cap(s.Vals)], s.Done[:cap(s.Done)], s.Got[:cap(s.Got)])
}

// spoil writes n all over a list and the room behind it.
func spoil[T any](list []T, n T) {
	for i := range list[:cap(list)] {
		list[:cap(list)][i] = n
	}
}

// spoilState does so with each of its lists.
func spoilState(s api.State, on bool) {
	spoil(s.Vals, -77)
	spoil(s.Done, on)
	spoil(s.Got, on)
}

// someOps: such as are done and such as are refused.
func someOps() []api.Op {
	return []api.Op{
		read(), set("sum", 7), set("n", 1), set("sum", 1000), add("paid", 2), add("n", 1), add("n", 3000),
		fire("pay"), fire("s"), fire("u"), fire("zz"), set("zz", 0), {}, {Kind: api.Create, Name: "a"},
	}
}

func TestR2_WhatIsHandedInStays(t *testing.T) {
	for _, y := range append(wrongTypes(), rightTypes(t)...) {
		if len(y.Attrs)+len(y.Stages)+len(y.Marks) > 100 {
			continue
		}
		x := roomyType(y)
		for _, z := range oddStates(y) {
			s := roomyState(z)
			was := wholly(x, s)
			spoilState(cases.New(x), true)
			cases.Fits(x, s)
			cases.Text(x, s)
			spoil(cases.Ready(x, s), "spoilt")
			for _, o := range someOps() {
				n, _, _ := cases.Apply(x, s, o)
				spoilState(n, true)
				spoilState(n, false)
			}
			if got := wholly(x, s); got != was {
				t.Fatalf("%.300s became %.300s", was, got)
			}
		}
	}
}

// apart looks whether each list of s is alone in its memory.
func apart(t *testing.T, s api.State) {
	t.Helper()
	for _, on := range []bool{true, false} {
		spoil(s.Got, !on)
		spoil(s.Done, on)
		if slices.Contains(s.Got, on) {
			t.Fatalf("what is written to Done stands in Got: %v", s)
		}
		spoil(s.Done, !on)
		spoil(s.Got, on)
		if slices.Contains(s.Done, on) {
			t.Fatalf("what is written to Got stands in Done: %v", s)
		}
	}
}

func TestR2_AnswersAreNewMemory(t *testing.T) {
	for _, y := range rightTypes(t) {
		x := roomyType(y)
		first, second := cases.New(x), cases.New(x)
		was := told(second)
		spoilState(first, true)
		apart(t, first)
		if told(second) != was || told(cases.New(x)) != was {
			t.Errorf("New shares memory with an earlier answer: %v, %s", second, was)
		}
		for _, o := range someOps() {
			s := roomyState(cases.New(x))
			one, _, _ := cases.Apply(x, s, o)
			two, _, _ := cases.Apply(x, s, o)
			want := told(two)
			spoilState(one, true)
			apart(t, one)
			if told(two) != want {
				t.Errorf("%v shares memory with an earlier answer: %v, %s", o, two, want)
			}
		}
		s := cases.New(x)
		one, two := cases.Ready(x, s), cases.Ready(x, s)
		want := slices.Clone(two)
		spoil(one, "spoilt")
		if !slices.Equal(two, want) {
			t.Errorf("Ready shares memory with an earlier answer: %q", two)
		}
		readies(t, x, s, want...)
	}
}

// What is turned in the type or the state behind a call is not seen in what it answered.
func TestR2_NothingIsKept(t *testing.T) {
	x := typed(t, loanText)
	s := cases.New(x)
	ready := cases.Ready(x, s)
	r, _, _ := cases.Apply(x, s, read())
	n, _, _ := cases.Apply(x, s, set("sum", 7))
	spoilState(s, true)
	x.Attrs[0], x.Stages[0], x.Marks[0] = api.Attr{}, api.Rule{}, api.Rule{}
	if got := fmt.Sprint(ready, r.Vals, r.Done, r.Got, n.Vals, n.Done, n.Got); got != "[pay odd] [5 -3 0] [false false false false] [false false false false] [7 -3 0] [false false false false] [false false false false]" {
		t.Errorf("an answer went along: %s", got)
	}
}

// The room behind lists is not read.
func TestR5_RoomBehind(t *testing.T) {
	for _, x := range rightTypes(t) {
		in := roomyType(x)
		if got, want := told(cases.New(in)), told(cases.New(x)); got != want {
			t.Errorf("New: %s; not %s", got, want)
		}
		for _, s := range oddStates(x) {
			z := roomyState(s)
			fits(t, in, z, cases.Fits(x, s))
			tells(t, in, z, cases.Text(x, s))
			readies(t, in, z, cases.Ready(x, s)...)
			for _, o := range someOps() {
				n, text, why := cases.Apply(in, z, o)
				m, want, wantWhy := cases.Apply(x, s, o)
				if told(n) != told(m) || text != want || why != wantWhy {
					t.Errorf("%v: %v, %q, %d; not %v, %q, %d", o, n, text, why, m, want, wantWhy)
				}
			}
		}
	}
}

// nil and empty lists mean the same.
func TestR4_NoneAndEmpty(t *testing.T) {
	none, empty := api.Type{Name: "a"}, api.Type{Name: "a", Attrs: []api.Attr{}, Stages: []api.Rule{}, Marks: []api.Rule{}}
	for _, x := range []api.Type{none, empty} {
		if got := told(cases.New(x)); got != "{a [] [] []}" {
			t.Errorf("New: %s", got)
		}
		for _, s := range []api.State{{Type: "a"}, full("a", 0, 0, 0)} {
			fits(t, x, s, true)
			tells(t, x, s, "a")
			readies(t, x, s)
			if n, text, why := cases.Apply(x, s, read()); told(n) != "{a [] [] []}" || text != "a" || why != api.OK {
				t.Errorf("Read: %v, %q, %d", n, text, why)
			}
			refused(t, x, s, set("", 0), api.NoName)
			refused(t, x, s, fire(""), api.NoStage)
		}
	}
}
