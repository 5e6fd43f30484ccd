package hist_test

import (
	"math"
	"slices"
	"testing"

	"conclave/api"
	"conclave/hist"
)

func TestP21_2_Before(t *testing.T) {
	for _, x := range []struct {
		what string
		a, b hist.Op
		want bool
	}{
		{"one behind the other", hist.Op{From: 0, To: 1}, hist.Op{From: 2, To: 3}, true},
		{"the other way round", hist.Op{From: 2, To: 3}, hist.Op{From: 0, To: 1}, false},
		{"far behind", hist.Op{From: 0, To: 1}, hist.Op{From: 1 << 40, To: -1}, true},
		{"just behind", hist.Op{From: 3, To: 6}, hist.Op{From: 7, To: 8}, true},
		{"answered and called at one event, which is one alone", hist.Op{From: 3, To: 6}, hist.Op{From: 6, To: 8}, false},
		{"called ahead of the answer", hist.Op{From: 3, To: 6}, hist.Op{From: 5, To: 8}, false},
		{"within the other", hist.Op{From: 3, To: 6}, hist.Op{From: 4, To: 5}, false},
		{"about the other", hist.Op{From: 3, To: 6}, hist.Op{From: 2, To: 7}, false},
		{"the other waits", hist.Op{From: 0, To: 2}, hist.Op{From: 3, To: -1}, true},
		{"it waits", hist.Op{From: 0, To: -1}, hist.Op{From: 5, To: 6}, false},
		{"both wait", hist.Op{From: 0, To: -1}, hist.Op{From: 5, To: -1}, false},
		{"answered at the first event", hist.Op{From: -1, To: 0}, hist.Op{From: 1, To: 2}, true},
		{"no place", hist.Op{From: 0, To: math.MinInt}, hist.Op{From: 5, To: 6}, false},
		{"clients and replies say nothing", hist.Op{Client: 9, From: 0, To: 1}, hist.Op{Client: 2, Reply: api.Reply{Outcome: 1}, From: 2, To: 3}, true},
		{"one client", hist.Op{Client: 9, From: 0, To: 1}, hist.Op{Client: 9, From: 2, To: 3}, true},
	} {
		if got := hist.Before(x.a, x.b); got != x.want {
			t.Errorf("%s: %v", x.what, got)
		}
	}
}

// Each two calls of three clients, held against what the events tell one behind the other.
func TestP21_2_BeforeByEvents(t *testing.T) {
	l := []api.Event{
		called(0), called(1), answered(0, 1), refused(0), called(0), called(2), answered(2, 2), answered(1, 3), called(2), called(1), answered(0, 1),
	}
	all, why, _ := hist.Ops(l)
	if why != api.OK || len(all) != 6 {
		t.Fatalf("%v, %d", all, why)
	}
	for i, a := range all {
		for j, b := range all {
			// a is told to be over at its Answered, which is a's client's first one behind the Called.
			over := false
			for at := a.From + 1; at < b.From; at++ {
				over = over || l[at].Kind == api.Answered && l[at].Client == a.Client
			}
			if hist.Before(a, b) != over {
				t.Errorf("Before of calls %d and %d: %v", i, j, !over)
			}
		}
	}
}

// whole answers a new Reply each time.
func whole() api.Reply {
	return api.Reply{Outcome: api.Committed, Texts: []string{"x", "y"}, At: 2, Why: api.NoStage}
}

func TestP21_2_Same(t *testing.T) {
	replies := []api.Reply{
		{},
		{Outcome: 1}, {Outcome: 2}, {Outcome: -1}, {Outcome: 1 << 32},
		{At: 1}, {At: -1}, {At: 1 << 32},
		{Why: 1}, {Why: -1}, {Why: api.Bound},
		{Texts: []string{""}}, {Texts: []string{"", ""}},
		{Texts: []string{"x"}}, {Texts: []string{"x", "y"}}, {Texts: []string{"y", "x"}}, {Texts: []string{"xy"}},
		{Texts: []string{"", "xy"}}, {Texts: []string{"x", "y", ""}}, {Texts: []string{"x", "Y"}}, {Texts: []string{"x\x00"}}, {Texts: []string{"\xff"}}, {Texts: []string{"\xfe"}},
		whole(),
		{Outcome: api.Committed, Texts: []string{"x", "y"}, At: 2},
		{Outcome: api.Committed, Texts: []string{"x", "y"}, Why: api.NoStage},
		{Texts: []string{"x", "y"}, At: 2, Why: api.NoStage},
		{Outcome: api.Committed, At: 2, Why: api.NoStage},
	}
	for i, a := range replies {
		for j, b := range replies {
			b.Texts = slices.Clone(b.Texts)
			if got := hist.Same(a, b); got != (i == j) {
				t.Errorf("Same(%v, %v): %v", a, b, got)
			}
		}
	}
}

func TestP21_2_Count(t *testing.T) {
	op := func(to, outcome int) hist.Op { return hist.Op{To: to, Reply: api.Reply{Outcome: outcome}} }
	l := []hist.Op{op(-1, 0), op(3, 1), op(5, 3), op(-1, 0), op(6, 1), op(9, 77), op(8, -4), op(2, 1)}
	for outcome := -6; outcome < 90; outcome++ {
		want := 0
		switch outcome {
		case api.Open:
			want = 2
		case api.Committed:
			want = 3
		case api.Rejected, 77, -4:
			want = 1
		}
		if got := hist.Count(l, outcome); got != want {
			t.Errorf("Count(%d): %d, not %d", outcome, got, want)
		}
	}
	for _, outcome := range []int{math.MinInt, math.MaxInt, 1 << 32, 1<<32 | 1} {
		if got := hist.Count(l, outcome); got != 0 {
			t.Errorf("Count(%d): %d", outcome, got)
		}
	}
}

// Open are those that wait, and an answer is one whatever outcome it tells.
func TestP21_2_CountOpen(t *testing.T) {
	all, why, _ := hist.Ops([]api.Event{called(0), answered(0, api.Open), called(1), called(2), called(0), answered(2, api.Aborted)})
	if why != api.OK || hist.Count(all, api.Open) != 2 || hist.Count(all, api.Aborted) != 1 || hist.Count(all, api.Committed) != 0 {
		t.Errorf("two of four wait: %v, %d: Open %d", all, why, hist.Count(all, api.Open))
	}
	if n := hist.Count([]hist.Op{{To: 0}, {To: 5}}, api.Open); n != 0 {
		t.Errorf("none waits: Open %d", n)
	}
	if n := hist.Count([]hist.Op{{To: -1}, {To: math.MinInt}}, api.Open); n != 2 {
		t.Errorf("both wait: Open %d", n)
	}
	for outcome := range 5 {
		if n := hist.Count(nil, outcome); n != 0 {
			t.Errorf("of no calls %d have outcome %d", n, outcome)
		}
	}
}
