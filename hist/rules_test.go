package hist_test

import (
	"math"
	"reflect"
	"slices"
	"testing"

	"conclave/api"
	"conclave/hist"
)

// R1: whatever is given, each call ends.
func TestR1_WhateverIsGiven(t *testing.T) {
	edges := []int{math.MinInt, -1, 0, 1, math.MaxInt}
	for _, kind := range edges {
		for _, client := range edges {
			e := api.Event{Kind: kind, Client: client, Reply: api.Reply{Outcome: kind, At: client, Why: api.Errno(kind)}}
			if kind == api.Called && client >= 0 {
				read(t, "Called", []api.Event{e}, hist.Op{Client: client, To: -1})
			} else {
				stopped(t, "strange", 0, e)
			}
		}
	}
	for _, from := range edges {
		for _, to := range edges {
			a, b := hist.Op{From: from, To: to}, hist.Op{From: to, To: from}
			if hist.Before(a, a) || hist.Before(b, b) || hist.Count([]hist.Op{a, b}, math.MinInt) != 0 {
				t.Errorf("%d to %d", from, to)
			}
		}
	}
	if hist.Before(hist.Op{}, hist.Op{}) || !hist.Same(api.Reply{}, api.Reply{}) || hist.Count(nil, 0) != 0 {
		t.Error("of nothing")
	}
}

// row answers a row of events anew, each list with spare room behind it.
func row() []api.Event {
	ops := []api.Op{{Kind: api.Read, Case: "a"}, {Kind: api.Add, Case: "b", Name: "n", N: 3}, {Case: "spare"}}
	more := []api.Op{{Kind: api.Create, Case: "c", Name: "loan"}, {Case: "spare"}}
	texts, empty := []string{"x", "y", "spare"}, []string{"spare"}
	return []api.Event{
		{Kind: api.Called, Client: 1, Ops: ops[:2]},
		{Kind: api.Called, Client: 2, Ops: ops[:2]},
		{Kind: api.Answered, Client: 1, Ops: ops[:2], Reply: api.Reply{Outcome: api.Committed, Texts: texts[:2]}},
		{Kind: api.Answered, Client: 2, Ops: ops[:2], Reply: api.Reply{Outcome: api.Committed, Texts: texts[:2]}},
		{Kind: api.Called, Client: 1, Ops: more[:1]},
		{Kind: api.Called, Client: 3, Ops: more[:0]},
		{Kind: api.Answered, Client: 3, Reply: api.Reply{Outcome: api.Rejected, Texts: empty[:0], Why: api.NoCase}},
		{Kind: api.Refused, Client: 1, Ops: more[:1]},
	}
}

// open answers l with what lies in the spare room of its lists.
func open(l []api.Event) []api.Event {
	l = slices.Clone(l)
	for k, e := range l {
		l[k].Ops = slices.Clone(e.Ops[:cap(e.Ops)])
		l[k].Reply.Texts = slices.Clone(e.Reply.Texts[:cap(e.Reply.Texts)])
	}
	return l
}

// R2: what is handed in is not changed, spare room included.
func TestR2_WhatIsHandedIn(t *testing.T) {
	l := append(row(), called(50), answered(50, 2))
	all, why, _ := hist.Ops(l[:8])
	if why != api.OK {
		t.Fatal(why)
	}
	was := slices.Clone(all)
	for k := range was {
		was[k].Ops, was[k].Reply.Texts = slices.Clone(all[k].Ops), slices.Clone(all[k].Reply.Texts)
	}
	hist.Count(all[:2], api.Committed)
	hist.Same(all[0].Reply, l[2].Reply)
	hist.Before(all[0], all[2])
	if !like(all, was) || len(all) != 4 {
		t.Errorf("the calls are changed: %v", all)
	}
	if want := append(open(row()), called(50), answered(50, 2)); !reflect.DeepEqual(open(l[:8]), want[:8]) || !reflect.DeepEqual(l[8:], want[8:]) {
		t.Errorf("the events are changed: %v", open(l))
	}
}

// spoil overwrites l and the room behind it.
func spoil[T any](l []T, with T) {
	l = l[:cap(l)]
	for k := range l {
		l[k] = with
	}
}

// R2: an answer is new memory, and no two lists of it share any.
func TestR2_WhatIsAnswered(t *testing.T) {
	want, _, _ := hist.Ops(row())
	l := row()
	for k := range want {
		all, _, _ := hist.Ops(l)
		other, _, _ := hist.Ops(l)
		spoil(all[k].Ops, api.Op{Kind: 9, Case: "spoilt"})
		for j := range all {
			if j != k && !reflect.DeepEqual(all[j].Ops, want[j].Ops) {
				t.Errorf("calls %d and %d share their Ops", k, j)
			}
		}
		spoil(all[k].Reply.Texts, "spoilt")
		for j := range all {
			if j != k && !slices.Equal(all[j].Reply.Texts, want[j].Reply.Texts) {
				t.Errorf("calls %d and %d share their Texts", k, j)
			}
		}
		spoil(all, hist.Op{From: 99})
		if !like(other, want) {
			t.Errorf("two answers share memory: %v", other)
		}
	}
	if !reflect.DeepEqual(open(l), open(row())) {
		t.Errorf("the answer shares memory with the events: %v", open(l))
	}
}

// R2: what is handed in is not kept.
func TestR2_NotKept(t *testing.T) {
	want, _, _ := hist.Ops(row())
	l := row()
	all, _, _ := hist.Ops(l)
	for k := range l {
		spoil(l[k].Ops, api.Op{Kind: 9, Case: "spoilt"})
		spoil(l[k].Reply.Texts, "spoilt")
	}
	spoil(l, refused(99))
	if !like(all, want) {
		t.Errorf("the answer turns with the events: %v", all)
	}
}

// R4: nil and empty lists mean the same.
func TestR4_NilAndEmpty(t *testing.T) {
	for _, l := range [][]api.Event{nil, {}, make([]api.Event, 0, 5)} {
		read(t, "no events", l)
	}
	for _, ops := range [][]api.Op{nil, {}, make([]api.Op, 0, 3)} {
		for _, texts := range [][]string{nil, {}, make([]string, 0, 3)} {
			r := api.Reply{Outcome: api.Committed, Texts: texts}
			read(t, "a call of nothing", []api.Event{{Kind: api.Called, Ops: ops}, {Kind: api.Answered, Reply: r}}, hist.Op{Reply: r, From: 0, To: 1})
			if !hist.Same(r, api.Reply{Outcome: api.Committed}) || !hist.Same(api.Reply{Outcome: api.Committed, Texts: []string{}}, r) {
				t.Error("Same of no Texts")
			}
		}
	}
	for _, l := range [][]hist.Op{nil, {}, make([]hist.Op, 0, 5)} {
		if hist.Count(l, api.Open) != 0 || hist.Count(l, api.Committed) != 0 {
			t.Error("Count of no calls")
		}
	}
}

// R4: the same is answered again and again.
func TestR4_SameAnswers(t *testing.T) {
	var l []api.Event
	for client := range 40 {
		l = append(l, called(client*7%40, "a"))
	}
	want, _, _ := hist.Ops(l)
	for range 50 {
		read(t, "forty that wait", l, want...)
	}
}

// R5: room behind the length of a list is not read.
func TestR5_SpareRoom(t *testing.T) {
	l := []api.Event{called(0, "a", "b")}
	l[0].Ops = l[0].Ops[:1]
	l = append(l, answered(0, api.Committed), api.Event{}, called(-1))
	read(t, "faults behind the end", l[:1], hist.Op{Ops: called(0, "a").Ops, To: -1})
	read(t, "no event within", l[:0])
	all := []hist.Op{{To: 1, Reply: api.Reply{Outcome: 1}}, {To: 2, Reply: api.Reply{Outcome: 1}}, {To: -1}}
	if hist.Count(all[:1], 1) != 1 || hist.Count(all[:2], api.Open) != 0 {
		t.Error("Count reads behind the end")
	}
	texts := []string{"x", "y"}
	if !hist.Same(api.Reply{Texts: texts[:1]}, api.Reply{Texts: []string{"x", "z"}[:1]}) {
		t.Error("Same reads behind the end")
	}
}
