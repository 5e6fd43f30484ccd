package serial_test

import (
	"fmt"
	"math"
	"reflect"
	"slices"
	"strings"
	"testing"

	"conclave/api"
	"conclave/hist"
	"conclave/serial"
)

// R1: whatever is given, each call ends.
func TestR1_WhateverIsGiven(t *testing.T) {
	edges := []int{math.MinInt, -1, 0, 1, 5, 6, math.MaxInt}
	names := []string{"", "a", "sum", "loan", "\x00\xff", strings.Repeat("a", 1<<16)}
	m := began(t, ops(create("a", "loan")))
	for _, k := range edges {
		for _, n := range edges {
			for _, x := range names {
				for _, y := range names {
					l := ops(read("a"), api.Op{Kind: k, Case: x, Name: y, N: n})
					r := api.Reply{Outcome: n, At: k, Why: api.Errno(n)}
					m.Allows(l, r)
					m.Allows(l, rejected(k, api.Errno(n)))
					m.Copy().Do(l)
					m.Text(x)
					serial.Order(ours(), []hist.Op{call(k, n, r, l...), call(n, k, rejected(n, api.Errno(k)), l...), call(k, k, committed(x), l...), waiting(n, l...)})
				}
			}
		}
	}
	if got := whole(m); got != "a: loan sum=5" {
		t.Error(got)
	}
	for _, types := range lists() {
		serial.Order(types, make([]hist.Op, 7))
		serial.Check(types, make([]hist.Op, 8))
	}
}

// R1: rows of operations far longer than may be run end soon, each of seven calls' too.
func TestR1_LongRows(t *testing.T) {
	const n = 5000
	m := began(t, ops(create("a", "loan")))
	long := slices.Repeat(ops(read("a")), n)
	long[n-1] = read("x")
	allows(t, m, true, rejected(0, api.ErrArg), long...)
	allows(t, m, true, rejected(n-1, api.NoCase), long...)
	long[n-1] = fire("a", "shut")
	allows(t, m, true, rejected(n-1, api.NoStage), long...)
	allows(t, m, false, rejected(n-1, api.NoCase), long...)
	l := []hist.Op{call(0, 1, made, create("a", "loan"))}
	for range 6 {
		l = append(l, call(2, 3, rejected(n-1, api.NoStage), long...))
	}
	ordered(t, "long", []int{0, 1, 2, 3, 4, 5, 6}, l...)
}

// spared answers l with spare room behind it, which holds item.
func spared[T any](l []T, item T) []T {
	return append(slices.Clone(l), item, item)[:len(l)]
}

// roomy answers the types of these tests, each list with spare room.
func roomy() []api.Type {
	all := ours()
	for k, x := range all {
		all[k].Attrs = spared(x.Attrs, api.Attr{Name: "spare"})
		all[k].Stages = spared(x.Stages, api.Rule{Name: "spare"})
		all[k].Marks = spared(x.Marks, api.Rule{Name: "spare"})
	}
	return spared(all, api.Type{Name: "spare"})
}

// openTypes answers types with what lies in the spare room of their lists.
func openTypes(all []api.Type) []api.Type {
	all = slices.Clone(all[:len(all)+2])
	for k, x := range all {
		all[k].Attrs, all[k].Stages, all[k].Marks = slices.Clone(x.Attrs[:cap(x.Attrs)]), slices.Clone(x.Stages[:cap(x.Stages)]), slices.Clone(x.Marks[:cap(x.Marks)])
	}
	return all
}

// calls answers four calls, each list with spare room; the least of their orders is 1, 0, 3.
func calls() []hist.Op {
	all := []hist.Op{
		call(0, 9, committed("", "loan sum=7"), add("a", "sum", 2), read("a")),
		call(1, 8, committed("", "loan sum=5"), create("a", "loan"), read("a")),
		call(2, 7, api.Reply{Outcome: api.Aborted}, read("a")),
		call(3, 6, rejected(1, api.NoCase), read("b"), read("c")),
	}
	for k, x := range all {
		all[k].Ops, all[k].Reply.Texts = spared(x.Ops, kind(9, "spare")), spared(x.Reply.Texts, "spare")
	}
	return spared(all, hist.Op{Client: 9})
}

func openCalls(all []hist.Op) []hist.Op {
	all = slices.Clone(all[:len(all)+2])
	for k, x := range all {
		all[k].Ops, all[k].Reply.Texts = slices.Clone(x.Ops[:cap(x.Ops)]), slices.Clone(x.Reply.Texts[:cap(x.Reply.Texts)])
	}
	return all
}

// R2: what is handed in is not changed, spare room included.
func TestR2_WhatIsHandedIn(t *testing.T) {
	types, l := roomy(), calls()
	wantTypes, want := openTypes(types), openCalls(l)
	m, why := serial.New(types)
	if why != api.OK {
		t.Fatal(why)
	}
	for _, k := range []int{1, 0, 2, 3} {
		m.Allows(l[k].Ops, l[k].Reply)
		m.Do(l[k].Ops)
	}
	m.Copy()
	if order, ok, why := serial.Order(types, l); !ok || why != api.OK || !slices.Equal(order, []int{1, 0, 3}) {
		t.Errorf("%v, %v, %d", order, ok, why)
	}
	serial.Check(types, l)
	if !reflect.DeepEqual(openTypes(types), wantTypes) {
		t.Errorf("the types are changed: %v", openTypes(types))
	}
	if !reflect.DeepEqual(openCalls(l), want) {
		t.Errorf("the calls are changed: %v", openCalls(l))
	}
}

// spoil overwrites l and the room behind it.
func spoil[T any](l []T, with T) {
	l = l[:cap(l)]
	for k := range l {
		l[k] = with
	}
}

func spoilTypes(types []api.Type) {
	for _, x := range types {
		spoil(x.Attrs, api.Attr{Name: "spoilt", Start: 77})
		spoil(x.Stages, api.Rule{Name: "spoilt", Guard: "1"})
		spoil(x.Marks, api.Rule{Name: "spoilt", Guard: "1"})
	}
	spoil(types, api.Type{Name: "spoilt"})
}

// R2: what is handed in is not kept.
func TestR2_NotKept(t *testing.T) {
	types := roomy()
	m, _ := serial.New(types)
	n := m.Copy()
	spoilTypes(types)
	for _, x := range []*serial.Map{m, n} {
		l := ops(create("a", "loan"), set("a", "sum", 60), fire("a", "pay"), create("b", "bare"))
		does(t, x, committed("", "", "", ""), l...)
		spoil(l, create("z", "spoilt"))
		does(t, x, rejected(0, api.Unknown), create("z", "spoilt"))
		if got := whole(x); got != "a: loan sum=60 +pay *big\nb: bare *on" {
			t.Error(got)
		}
	}
}

// R2: an answer is new memory.
func TestR2_WhatIsAnswered(t *testing.T) {
	m := some(t)
	was := whole(m)
	l := ops(read("a"), read("b"), add("a", "sum", 0), add("b", "n", 0))
	x, y := m.Do(l), m.Do(l)
	spoil(x.Texts, "spoilt")
	if told(y) != told(committed("loan sum=5", "note n=0", "", "")) || told(m.Do(l)) != told(y) {
		t.Errorf("two answers of Do share memory: %s", told(y))
	}
	a, b := m.Cases(), m.Cases()
	spoil(a, "spoilt")
	if !slices.Equal(b, []string{"a", "b"}) || whole(m) != was {
		t.Errorf("Cases: %v, %s", b, whole(m))
	}
	c := calls()
	one, _, _ := serial.Order(ours(), c)
	two, _, _ := serial.Order(ours(), c)
	spoil(one, 9)
	if !slices.Equal(two, []int{1, 0, 3}) || !reflect.DeepEqual(openCalls(c), openCalls(calls())) {
		t.Errorf("Order: %v, %v", two, openCalls(c))
	}
}

// R3: who is refused leaves nothing that a later call tells.
func TestR3_RefusedChangesNothing(t *testing.T) {
	m, n := some(t), some(t)
	for _, l := range [][]api.Op{nil, {read("x")}, {create("c", "note"), create("c", "note")}, {set("a", "sum", 60), fire("a", "shut")}, {kind(9, "a")}, {create("d", "note"), create("D", "note")}} {
		if r := m.Do(l); r.Outcome != api.Rejected {
			t.Errorf("%v: %s", l, told(r))
		}
	}
	l := ops(create("c", "note"), create("d", "note"), add("a", "sum", 1), read("a"))
	if told(m.Do(l)) != told(n.Do(l)) || whole(m) != whole(n) {
		t.Errorf("%s, not %s", whole(m), whole(n))
	}
}

// R4: nil and empty lists mean the same.
func TestR4_NilAndEmpty(t *testing.T) {
	m := some(t)
	for _, l := range [][]api.Op{nil, {}, make([]api.Op, 0, 3)} {
		does(t, m, rejected(0, api.ErrArg), l...)
		for _, texts := range [][]string{nil, {}, make([]string, 0, 3)} {
			allows(t, m, true, api.Reply{Outcome: api.Rejected, Texts: texts, Why: api.ErrArg}, l...)
			allows(t, m, true, api.Reply{Outcome: api.Rejected, Texts: texts, Why: api.NoCase}, read("x"))
			ordered(t, "a call of nothing", []int{0}, call(0, 1, api.Reply{Outcome: api.Rejected, Texts: texts, Why: api.ErrArg}, l...))
		}
		ordered(t, "a call of nothing that waits", nil, waiting(0, l...))
	}
	for _, l := range [][]hist.Op{nil, {}, make([]hist.Op, 0, 5)} {
		ordered(t, "no calls", nil, l...)
	}
	for _, types := range [][]api.Type{nil, {}, make([]api.Type, 0, 5)} {
		taken(t, "no types", types)
		n, _ := serial.New(types)
		does(t, n, rejected(0, api.Unknown), create("a", "loan"))
	}
	for _, x := range []api.Type{{Name: "a"}, {Name: "a", Attrs: []api.Attr{}, Stages: []api.Rule{}, Marks: []api.Rule{}}} {
		n, _ := serial.New([]api.Type{x})
		does(t, n, committed("", "a"), create("b", "a"), read("b"))
	}
}

// R4: the same is answered again and again.
func TestR4_SameAnswers(t *testing.T) {
	for range 50 {
		m := began(t)
		var want []string
		for k := range 60 {
			does(t, m, committed(""), create(nameOf(k*7%60), "note"))
			want = append(want, nameOf(k))
		}
		if !slices.Equal(m.Cases(), want) || !slices.Equal(m.Copy().Cases(), want) {
			t.Fatal(m.Cases())
		}
		ordered(t, "calls", []int{1, 0, 3}, calls()...)
	}
}

// R5: room behind the length of a list is not read.
func TestR5_SpareRoom(t *testing.T) {
	taken(t, "a type that is wrong behind the end", append(ours(), api.Type{})[:3])
	taken(t, "types behind the end", append(ours(), ours()...)[:3])
	m := some(t)
	does(t, m, committed("loan sum=5"), ops(read("a"), kind(9, "a"), read("b"), read("b"), read("b"))[:1]...)
	does(t, m, rejected(0, api.ErrArg), ops(read("a"))[:0]...)
	l := ops(read("a"), read("x"))
	if m.Allows(l[:1], rejected(1, api.NoCase)) || !m.Allows(l, rejected(1, api.NoCase)) {
		t.Error("Allows reads behind the end")
	}
	if !m.Allows(ops(read("a")), committed([]string{"loan sum=5", "x"}[:1]...)) {
		t.Error("Allows reads texts behind the end")
	}
	all := slices.Repeat([]hist.Op{waiting(0)}, 9)
	ordered(t, "calls behind the end", nil, all[:7]...)
	ordered(t, "the one that must be is behind the end", nil, []hist.Op{waiting(0), call(1, 2, made, create("a", "loan"))}[:1]...)
	if got, ok, why := serial.Order(ours(), calls()); !slices.Equal(got, []int{1, 0, 3}) || !ok || why != api.OK {
		t.Error(fmt.Sprint(got, ok, why))
	}
}
