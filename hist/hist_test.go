package hist_test

import (
	"fmt"
	"math"
	"reflect"
	"testing"

	"conclave/api"
	"conclave/hist"
)

func called(client int, cases ...string) api.Event {
	e := api.Event{Kind: api.Called, Client: client}
	for _, name := range cases {
		e.Ops = append(e.Ops, api.Op{Kind: api.Read, Case: name})
	}
	return e
}

func answered(client, outcome int, texts ...string) api.Event {
	return api.Event{Kind: api.Answered, Client: client, Reply: api.Reply{Outcome: outcome, Texts: texts}}
}

func refused(client int) api.Event { return api.Event{Kind: api.Refused, Client: client} }

// plain takes the lists of no items out of all, since nil and empty mean the same.
func plain(all []hist.Op) []hist.Op {
	out := make([]hist.Op, len(all))
	for k, x := range all {
		if len(x.Ops) == 0 {
			x.Ops = nil
		}
		if len(x.Reply.Texts) == 0 {
			x.Reply.Texts = nil
		}
		out[k] = x
	}
	return out
}

func like(a, b []hist.Op) bool { return reflect.DeepEqual(plain(a), plain(b)) }

// read looks whether Ops answers these calls of l.
func read(t *testing.T, what string, l []api.Event, want ...hist.Op) {
	t.Helper()
	all, why, at := hist.Ops(l)
	if why != api.OK || at != 0 || !like(all, want) {
		t.Errorf("%s: %v, %d at %d; not %v", what, all, why, at, want)
	}
}

// stopped looks whether Ops answers ErrForm at that place, and no calls.
func stopped(t *testing.T, what string, place int, l ...api.Event) {
	t.Helper()
	if all, why, at := hist.Ops(l); why != api.ErrForm || at != place || len(all) != 0 {
		t.Errorf("%s: %v, %d at %d; not ErrForm at %d", what, all, why, at, place)
	}
}

func TestP21_Runs(t *testing.T) {
	read(t, "Called 0, Called 1, Answered 0", []api.Event{called(0, "a"), called(1, "b"), answered(0, api.Committed, "x")},
		hist.Op{Client: 0, Ops: called(0, "a").Ops, Reply: answered(0, api.Committed, "x").Reply, From: 0, To: 2},
		hist.Op{Client: 1, Ops: called(1, "b").Ops, From: 1, To: -1})
	stopped(t, "Answered 0", 0, answered(0, api.Committed))
}

func TestP21_Examples(t *testing.T) {
	read(t, "no events", nil)
	for from := -3; from < 8; from++ {
		for to := -3; to < 8; to++ {
			if a := (hist.Op{From: from, To: to}); hist.Before(a, a) {
				t.Errorf("%d to %d is before itself", from, to)
			}
		}
	}
}

// All fields of a call come from its Called, those of the answer from its Answered.
func TestP21_1_Fields(t *testing.T) {
	ops := []api.Op{
		{Kind: api.Create, Case: "a", Name: "loan"},
		{Kind: api.Set, Case: "a", Name: "sum", N: -7},
		{Kind: 99, Case: "\x00\xff", Name: "", N: 1 << 40},
		{},
		{Kind: -1},
	}
	r := api.Reply{Outcome: 77, Texts: []string{"one", "", "\xff"}, At: 3, Why: api.Bound}
	other := api.Reply{Outcome: api.Rejected, Texts: []string{"other"}, At: 1, Why: api.NoCase}
	l := []api.Event{
		{Kind: api.Called, Client: 7, Ops: ops, Reply: other},
		{Kind: api.Refused, Client: 7, Ops: ops[:1], Reply: other},
		{Kind: api.Answered, Client: 7, Ops: ops[1:2], Reply: r},
		{Kind: api.Called, Client: 8, Ops: ops[2:], Reply: other},
	}
	read(t, "one answered, one not", l,
		hist.Op{Client: 7, Ops: ops, Reply: r, From: 0, To: 2},
		hist.Op{Client: 8, Ops: ops[2:], From: 3, To: -1})
}

func TestP21_1_Order(t *testing.T) {
	op := func(client, from, to int) hist.Op {
		x := hist.Op{Client: client, From: from, To: to}
		if to >= 0 {
			x.Reply.Outcome = api.Committed
		}
		return x
	}
	ok := func(client int) api.Event { return answered(client, api.Committed) }
	read(t, "answered in the order of the calls", []api.Event{called(0), called(1), ok(0), ok(1)}, op(0, 0, 2), op(1, 1, 3))
	read(t, "answered the other way round", []api.Event{called(0), called(1), ok(1), ok(0)}, op(0, 0, 3), op(1, 1, 2))
	read(t, "a greater client first", []api.Event{called(5), called(2), called(9), ok(2)}, op(5, 0, -1), op(2, 1, 3), op(9, 2, -1))
	read(t, "one client again and again", []api.Event{called(3), ok(3), called(3), ok(3), called(3)}, op(3, 0, 1), op(3, 2, 3), op(3, 4, -1))
	read(t, "one waits while another comes again", []api.Event{called(0), called(1), ok(1), called(1), ok(1), ok(0), called(0)},
		op(0, 0, 5), op(1, 1, 2), op(1, 3, 4), op(0, 6, -1))
}

func TestP21_1_Refused(t *testing.T) {
	read(t, "Refused alone", []api.Event{refused(0), refused(0), refused(-1), refused(math.MinInt), refused(math.MaxInt)})
	read(t, "Refused between", []api.Event{refused(1), called(1), refused(1), refused(2), answered(1, api.Aborted), refused(1)},
		hist.Op{Client: 1, Reply: api.Reply{Outcome: api.Aborted}, From: 1, To: 4})
	stopped(t, "Answered behind a Refused", 1, refused(0), answered(0, api.Rejected))
	stopped(t, "a Refused is no answer", 2, called(0), refused(0), called(0))
	stopped(t, "Answered, Refused, Answered", 3, called(0), answered(0, api.Committed), refused(0), answered(0, api.Committed))
}

func TestP21_1_Kinds(t *testing.T) {
	for _, kind := range []int{0, 4, 5, -1, -3, 257, math.MaxInt, math.MinInt, api.Answered | 1<<32} {
		what := fmt.Sprint("Kind ", kind)
		stopped(t, what, 0, api.Event{Kind: kind})
		stopped(t, what+" of one that waits", 1, called(4), api.Event{Kind: kind, Client: 4})
		stopped(t, what+" behind an answer", 2, called(4), answered(4, 1), api.Event{Kind: kind, Client: 4})
		stopped(t, what+" of no client", 1, refused(0), api.Event{Kind: kind, Client: -1})
	}
}

func TestP21_1_Clients(t *testing.T) {
	for _, client := range []int{-1, -2, -16, math.MinInt} {
		what := fmt.Sprint("client ", client)
		stopped(t, what, 0, called(client))
		stopped(t, what+" answered", 0, answered(client, api.Committed))
		stopped(t, what+" behind another", 1, called(0), called(client))
		stopped(t, what+" answered behind another", 1, called(0), answered(client, api.Committed))
	}
	for _, client := range []int{0, 1, 15, 16, 255, 1 << 31, 1 << 32, math.MaxInt} {
		read(t, fmt.Sprint("client ", client), []api.Event{called(client), answered(client, api.Rejected)},
			hist.Op{Client: client, Reply: api.Reply{Outcome: api.Rejected}, From: 0, To: 1})
	}
	// Clients that are alike in their lowest bits are others all the same.
	read(t, "clients 0, 2^8, 2^16, 2^32", []api.Event{called(0), called(1 << 8), called(1 << 16), called(1 << 32)},
		hist.Op{From: 0, To: -1}, hist.Op{Client: 1 << 8, From: 1, To: -1}, hist.Op{Client: 1 << 16, From: 2, To: -1}, hist.Op{Client: 1 << 32, From: 3, To: -1})
}

func TestP21_1_Waiting(t *testing.T) {
	stopped(t, "Called twice", 1, called(0), called(0))
	stopped(t, "Called twice, another between", 2, called(0), called(1), called(0))
	stopped(t, "Answered twice", 2, called(0), answered(0, 1), answered(0, 1))
	stopped(t, "Answered of another", 1, called(0), answered(1, 1))
	stopped(t, "Answered of another that was answered", 3, called(1), answered(1, 1), called(0), answered(1, 1))
	stopped(t, "called again, and once more", 3, called(0), answered(0, 1), called(0), called(0))
}

// Of several faults the first is told, whatever they are.
func TestP21_1_FirstFault(t *testing.T) {
	faults := []api.Event{{Kind: 0}, {Kind: 4}, called(-1), called(0), answered(-1, 1), answered(1, 1)}
	for _, a := range faults {
		for _, b := range faults {
			stopped(t, fmt.Sprint(a, b), 1, called(0), a, b)
			stopped(t, fmt.Sprint(a, "and", b), 3, called(0), refused(-1), called(5), a, answered(5, 1), b)
		}
	}
}
