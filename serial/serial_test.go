package serial_test

import (
	"fmt"
	"math"
	"slices"
	"strings"
	"testing"

	"conclave/api"
	"conclave/schema"
	"conclave/serial"
	"conclave/shard"
)

// The types of these tests.
const (
	loanText = "type loan; attr sum 5 0 100; stage pay lt 0 sum; stage shut pay; mark big lt 50 sum"
	noteText = "type note; attr n 0 -9 9"
	bareText = "type bare; mark on 1"
)

func typed(texts ...string) []api.Type {
	var all []api.Type
	for _, s := range texts {
		x, why, _ := schema.Read(s)
		if why != api.OK {
			panic(s)
		}
		all = append(all, x)
	}
	return all
}

func ours() []api.Type { return typed(loanText, noteText, bareText) }

// began answers a new map of these tests' types, behind what these rows of operations did to it.
func began(t *testing.T, rows ...[]api.Op) *serial.Map {
	t.Helper()
	m, why := serial.New(ours())
	if m == nil || why != api.OK {
		t.Fatalf("New: %v, %d", m != nil, why)
	}
	for _, l := range rows {
		if r := m.Do(l); r.Outcome != api.Committed {
			t.Fatalf("%v: %s", l, told(r))
		}
	}
	return m
}

func create(c, name string) api.Op     { return api.Op{Kind: api.Create, Case: c, Name: name} }
func set(c, name string, n int) api.Op { return api.Op{Kind: api.Set, Case: c, Name: name, N: n} }
func add(c, name string, n int) api.Op { return api.Op{Kind: api.Add, Case: c, Name: name, N: n} }
func fire(c, name string) api.Op       { return api.Op{Kind: api.Fire, Case: c, Name: name} }
func read(c string) api.Op             { return api.Op{Kind: api.Read, Case: c} }
func kind(k int, c string) api.Op      { return api.Op{Kind: k, Case: c} }
func ops(l ...api.Op) []api.Op         { return l }

func committed(texts ...string) api.Reply {
	return api.Reply{Outcome: api.Committed, Texts: texts}
}

func rejected(at int, why api.Errno) api.Reply {
	return api.Reply{Outcome: api.Rejected, At: at, Why: why}
}

// told answers r in words; nil and empty lists are the same in them.
func told(r api.Reply) string { return fmt.Sprintf("%d %q %d %d", r.Outcome, r.Texts, r.At, r.Why) }

// whole answers all that m tells of its cases.
func whole(m *serial.Map) string {
	var all []string
	for _, name := range m.Cases() {
		all = append(all, name+": "+m.Text(name))
	}
	return strings.Join(all, "\n")
}

// does looks whether m answers l so.
func does(t *testing.T, m *serial.Map, want api.Reply, l ...api.Op) {
	t.Helper()
	was := whole(m)
	if r := m.Do(l); told(r) != told(want) {
		t.Errorf("%v: %s, not %s", l, told(r), told(want))
	}
	if now := whole(m); want.Outcome == api.Rejected && now != was {
		t.Errorf("%v is rejected, and left %s, not %s", l, now, was)
	}
}

// refused looks whether New refuses types, and so do those that are made of it.
func refused(t *testing.T, what string, types []api.Type) {
	t.Helper()
	if m, why := serial.New(types); m != nil || why != api.ErrArg {
		t.Errorf("%s: New: %v, %d", what, m != nil, why)
	}
	if l, ok, why := serial.Order(types, nil); len(l) != 0 || ok || why != api.ErrArg {
		t.Errorf("%s: Order: %v, %v, %d", what, l, ok, why)
	}
	if ok, why := serial.Check(types, nil); ok || why != api.ErrArg {
		t.Errorf("%s: Check: %v, %d", what, ok, why)
	}
}

// taken looks whether New, Order and Check let types by.
func taken(t *testing.T, what string, types []api.Type) {
	t.Helper()
	m, why := serial.New(types)
	if m == nil || why != api.OK || len(m.Cases()) != 0 {
		t.Fatalf("%s: New: %v, %d", what, m != nil, why)
	}
	if l, ok, why := serial.Order(types, nil); len(l) != 0 || !ok || why != api.OK {
		t.Errorf("%s: Order: %v, %v, %d", what, l, ok, why)
	}
	if ok, why := serial.Check(types, nil); !ok || why != api.OK {
		t.Errorf("%s: Check: %v, %d", what, ok, why)
	}
}

// lists answers lists of types, right and wrong.
func lists() [][]api.Type {
	a := api.Attr{Name: "x", Start: 1, Lo: 0, Hi: 2}
	rows := [][]api.Type{
		nil, {}, ours(), ours()[:1], typed("type a", "type b", "type c", "type d"), typed("type a", "type b", "type c", "type d", "type e"),
		make([]api.Type, 1), make([]api.Type, 5), make([]api.Type, 1000), typed("type a", "type a"), typed("type a", "type b", "type a"),
		typed("type a; attr x 1 0 2", "type a"), {{Name: "A"}}, {{Name: strings.Repeat("a", api.MaxName)}}, {{Name: strings.Repeat("a", api.MaxName+1)}},
		{{Name: "a", Attrs: []api.Attr{a}}}, {{Name: "a", Attrs: []api.Attr{a, a}}}, {{Name: "a", Attrs: []api.Attr{{Name: "x", Start: 3, Hi: 2}}}},
		{{Name: "a", Attrs: []api.Attr{{Name: "x", Hi: api.MaxValue}}}}, {{Name: "a", Attrs: []api.Attr{{Name: "x", Hi: api.MaxValue + 1}}}},
		{{Name: "a", Stages: []api.Rule{{Name: "x", Guard: "1"}}}}, {{Name: "a", Stages: []api.Rule{{Name: "x", Guard: ""}}}},
		{{Name: "a", Marks: []api.Rule{{Name: "x", Guard: "y"}}}}, {{Name: "a", Marks: []api.Rule{{Name: "y", Guard: "y"}}}},
	}
	for place := range 3 { // one that is wrong among those that are right
		l := ours()
		l[place].Name = ""
		rows = append(rows, l)
	}
	return rows
}

// P22.1: what shard.New refuses of all Hashes.
func TestP22_1_New(t *testing.T) {
	n := 0
	for k, types := range lists() {
		what := fmt.Sprintf("list %d", k)
		if _, why := shard.New(types, 0, 256); why != api.OK {
			refused(t, what, types)
			n++
		} else {
			taken(t, what, types)
		}
	}
	if n != 17 {
		t.Errorf("%d are refused", n)
	}
}

// P22.1: operations one behind the other.
func TestP22_1_Do(t *testing.T) {
	m := began(t)
	does(t, m, rejected(0, api.NoCase), read("a"))
	does(t, m, committed(""), create("a", "loan"))
	does(t, m, rejected(0, api.Exists), create("a", "loan"))
	does(t, m, rejected(0, api.Exists), create("a", "note"))
	does(t, m, rejected(0, api.Exists), create("a", "other"))
	does(t, m, rejected(0, api.Unknown), create("b", "other"))
	does(t, m, rejected(0, api.Unknown), create("B", "other"))
	does(t, m, rejected(0, api.Unknown), create("b", ""))
	does(t, m, rejected(0, api.NoName), create("B", "loan"))
	does(t, m, rejected(0, api.NoName), create("", "loan"))
	does(t, m, committed("loan sum=5"), read("a"))
	does(t, m, committed("", "", "loan sum=60 *big"), set("a", "sum", 50), add("a", "sum", 10), read("a"))
	does(t, m, rejected(0, api.NoName), set("a", "n", 1))
	does(t, m, rejected(0, api.Bound), set("a", "sum", 101))
	does(t, m, rejected(0, api.Bound), add("a", "sum", 41))
	does(t, m, rejected(0, api.NoStage), fire("a", "shut"))
	does(t, m, committed("", ""), fire("a", "pay"), fire("a", "shut"))
	does(t, m, rejected(0, api.NoStage), fire("a", "pay"))
	does(t, m, committed("", "", "note n=-9", "loan sum=60 +pay +shut *big"), create("b", "note"), set("b", "n", -9), read("b"), read("a"))
	does(t, m, committed("", "bare *on"), create("c", "bare"), read("c"))
	if got := whole(m); got != "a: loan sum=60 +pay +shut *big\nb: note n=-9\nc: bare *on" {
		t.Error(got)
	}
}

// P22.1: the first one that is refused, and nothing turned of what those ahead of it did.
func TestP22_1_Rejected(t *testing.T) {
	m := began(t, ops(create("a", "loan"), create("b", "note")))
	good := ops(add("a", "sum", 1), create("c", "note"), set("b", "n", 3))
	for _, bad := range []struct {
		o   api.Op
		why api.Errno
	}{{read("z"), api.NoCase}, {create("a", "note"), api.Exists}, {create("z", "zz"), api.Unknown}, {create("Z", "note"), api.NoName}, {set("b", "n", 10), api.Bound}, {fire("b", "pay"), api.NoStage}, {set("a", "n", 1), api.NoName}} {
		for at := range 4 {
			does(t, m, rejected(at, bad.why), slices.Insert(slices.Clone(good), at, bad.o)...)
		}
		does(t, m, rejected(1, bad.why), good[0], bad.o, read("nobody"), create("a", "loan"))
	}
	does(t, m, rejected(2, api.Exists), create("c", "note"), set("c", "n", 5), create("c", "note"))
	does(t, m, rejected(3, api.Bound), add("a", "sum", 40), add("a", "sum", 40), read("a"), add("a", "sum", 40))
	if got := whole(m); got != "a: loan sum=5\nb: note n=0" {
		t.Error(got)
	}
}

// P22.1: none, too many, a Kind that is none: whatever else may be said of them.
func TestP22_1_NotFormed(t *testing.T) {
	m := began(t, ops(create("a", "loan")))
	does(t, m, rejected(0, api.ErrArg))
	for n := 1; n <= 9; n++ {
		if n <= api.MaxOps {
			does(t, m, rejected(0, api.NoCase), slices.Repeat(ops(read("z")), n)...)
			does(t, m, committed(slices.Repeat([]string{"loan sum=5"}, n)...), slices.Repeat(ops(read("a")), n)...)
			continue
		}
		does(t, m, rejected(0, api.ErrArg), slices.Repeat(ops(read("z")), n)...)
		does(t, m, rejected(0, api.ErrArg), slices.Repeat(ops(read("a")), n)...)
		does(t, m, rejected(0, api.ErrArg), slices.Repeat(ops(add("a", "sum", 1)), n)...)
	}
	does(t, m, rejected(0, api.ErrArg), make([]api.Op, 100000)...)
	for _, k := range []int{math.MinInt, -1, 0, 6, 7, 9, math.MaxInt} {
		for n := 1; n <= api.MaxOps; n++ {
			for at := range n {
				l := slices.Repeat(ops(add("a", "sum", 1)), n)
				l[at].Kind = k
				does(t, m, rejected(0, api.ErrArg), l...)
				l = slices.Repeat(ops(read("z")), n) // refused ahead of it
				l[at].Kind = k
				does(t, m, rejected(0, api.ErrArg), l...)
			}
		}
	}
	if got := whole(m); got != "a: loan sum=5" {
		t.Error(got)
	}
}

// nameOf answers a name of a case for each number.
func nameOf(k int) string {
	return string([]byte{'k', 'a' + byte(k/26/26%26), 'a' + byte(k/26%26), 'a' + byte(k%26)})
}

// P22.1: more cases than a shard may have.
func TestP22_1_WithoutMaxCases(t *testing.T) {
	m := began(t)
	var want []string
	for k := range 2000 {
		does(t, m, committed(""), create(nameOf(k), "note"))
		does(t, m, rejected(0, api.Exists), create(nameOf(k), "note"))
		want = append(want, nameOf(k))
	}
	if got := m.Cases(); !slices.Equal(got, want) {
		t.Errorf("%d cases: %v", len(got), got)
	}
	does(t, m, rejected(0, api.Unknown), create("b", "zz"))
	does(t, m, rejected(0, api.NoName), create("B", "note"))
	does(t, m, committed("", "", "", ""), create("a", "note"), create("b", "note"), create("c", "note"), create("d", "note"))
}

// Cases in order of bytes; Text of those that are there alone.
func TestP22_2_CasesAndText(t *testing.T) {
	m := began(t)
	if got := m.Cases(); len(got) != 0 {
		t.Error(got)
	}
	for _, name := range []string{"b", "a", "ba", "z", "ab", "aa"} {
		does(t, m, committed(""), create(name, "note"))
	}
	if got := m.Cases(); !slices.Equal(got, []string{"a", "aa", "ab", "b", "ba", "z"}) {
		t.Error(got)
	}
	does(t, m, rejected(1, api.NoCase), create("c", "note"), read("d"))
	for _, name := range []string{"", "c", "d", "A", "note", "a ", "\x00"} {
		if got := m.Text(name); got != "" {
			t.Errorf("%q: %q", name, got)
		}
	}
	if got := m.Text("ab"); got != "note n=0" {
		t.Error(got)
	}
}

// A copy is as the map is, and each goes its own way.
func TestP22_2_Copy(t *testing.T) {
	m := began(t, ops(create("a", "loan"), create("b", "note")))
	was := whole(m)
	n := m.Copy()
	if whole(n) != was {
		t.Errorf("%s, not %s", whole(n), was)
	}
	does(t, m, committed("", "", ""), set("a", "sum", 60), fire("a", "pay"), create("c", "bare"))
	if whole(n) != was {
		t.Errorf("turned with the map: %s", whole(n))
	}
	turned := whole(m)
	does(t, n, committed("", "", "", ""), add("a", "sum", 1), set("b", "n", 9), create("d", "note"), fire("a", "pay"))
	if whole(m) != turned {
		t.Errorf("turned with the copy: %s", whole(m))
	}
	if got := whole(n); got != "a: loan sum=6 +pay\nb: note n=9\nd: note n=0" {
		t.Error(got)
	}
	empty := began(t).Copy()
	does(t, empty, committed("", "loan sum=5"), create("a", "loan"), read("a"))
}

// checked looks whether l has an order.
func checked(t *testing.T, want bool, l ...api.Reply) {
	t.Helper()
	if ok, why := serial.Check(ours(), called(l...)); ok != want || why != api.OK {
		t.Errorf("%v: %v, %d", l, ok, why)
	}
}

func TestP22_Runs(t *testing.T) {
	checked(t, false, committed(""), committed(""))
	checked(t, true, committed(""), rejected(0, api.Exists))
}

func TestP22_Examples(t *testing.T) {
	checked(t, true)
	does(t, began(t), rejected(0, api.ErrArg))
}
