package hist_test

import (
	"fmt"
	"math/rand"
	"testing"

	"conclave/api"
	"conclave/hist"
)

// count answers how many events of l are of that kind and client.
func count(l []api.Event, kind, client int) int {
	n := 0
	for _, e := range l {
		if e.Kind == kind && e.Client == client {
			n++
		}
	}
	return n
}

// may answers whether e may be behind l, which may be: a client waits if it was called once more than it was answered.
func may(l []api.Event, e api.Event) bool {
	waits := count(l, api.Called, e.Client) - count(l, api.Answered, e.Client)
	switch e.Kind {
	case api.Called:
		return e.Client >= 0 && waits == 0
	case api.Answered:
		return e.Client >= 0 && waits == 1
	}
	return e.Kind == api.Refused
}

// foretold answers what Ops is to answer of l, each event looked at by itself.
func foretold(l []api.Event) ([]hist.Op, api.Errno, int) {
	for at, e := range l {
		if !may(l[:at], e) {
			return nil, api.ErrForm, at
		}
	}
	var all []hist.Op
	for from, e := range l {
		if e.Kind != api.Called {
			continue
		}
		x := hist.Op{Client: e.Client, Ops: e.Ops, From: from, To: -1}
		for to := len(l) - 1; to > from; to-- {
			if l[to].Kind == api.Answered && l[to].Client == e.Client {
				x.To, x.Reply = to, l[to].Reply
			}
		}
		all = append(all, x)
	}
	return all, api.OK, 0
}

// marked gives each event what tells it from all others.
func marked(l []api.Event) []api.Event {
	for at := range l {
		l[at].Ops = []api.Op{{Kind: api.Read, Case: fmt.Sprint("case", at)}}
		l[at].Reply = api.Reply{Outcome: at%4 + 1, Texts: []string{fmt.Sprint("text", at)}, At: at, Why: api.Errno(at)}
	}
	return l
}

// looked holds Ops of l, and what is told of its calls, against the model, and answers whether l may be.
func looked(t *testing.T, l []api.Event) bool {
	t.Helper()
	want, wantWhy, wantAt := foretold(l)
	all, why, at := hist.Ops(l)
	if why != wantWhy || at != wantAt || !like(all, want) {
		t.Fatalf("%v: %v, %d at %d; not %v, %d at %d", l, all, why, at, want, wantWhy, wantAt)
	}
	for outcome := range 6 {
		n := 0
		for _, x := range want {
			if x.Reply.Outcome == outcome {
				n++
			}
		}
		if got := hist.Count(all, outcome); got != n {
			t.Fatalf("%v: Count(%d): %d, not %d", l, outcome, got, n)
		}
	}
	return why == api.OK
}

// rows looks at every row of events that begins with l and has up to most more; behind a refusal at one event more alone.
func rows(t *testing.T, l, events []api.Event, most int) int {
	n := 0
	for _, e := range events {
		longer := marked(append(l[:len(l):len(l)], e))
		n++
		ok := looked(t, longer)
		switch {
		case ok && most > 1:
			n += rows(t, longer, events, most-1)
		case !ok:
			looked(t, append(longer, called(9)))
			looked(t, append(longer, e))
		}
	}
	return n
}

func TestP21_1_EveryRow(t *testing.T) {
	var events []api.Event
	for client := -1; client <= 2; client++ {
		for kind := 0; kind <= 4; kind++ {
			events = append(events, api.Event{Kind: kind, Client: client})
		}
	}
	most := 4
	if testing.Short() {
		most = 3
	}
	if n := rows(t, nil, events, most); n < 1000 {
		t.Errorf("only %d rows", n)
	}
}

// seeded answers a row of events that may be, told of that many clients.
func seeded(r *rand.Rand, clients, n int) []api.Event {
	var l []api.Event
	waits := make([]bool, clients)
	for range n {
		c := r.Intn(clients)
		switch {
		case r.Intn(8) == 0:
			l = append(l, refused(r.Intn(clients+2)-1))
		case waits[c]:
			l = append(l, answered(c, api.Committed))
			waits[c] = false
		default:
			l = append(l, called(c))
			waits[c] = true
		}
	}
	return marked(l)
}

func TestP21_1_SeededRows(t *testing.T) {
	r := rand.New(rand.NewSource(21))
	right := 0
	for range 3000 {
		l := seeded(r, 1+r.Intn(9), r.Intn(60))
		if !looked(t, l) {
			t.Fatalf("%v: refused", l)
		}
		spoilt := l
		switch k := r.Intn(len(l) + 1); {
		case k == len(l):
		case r.Intn(4) == 0:
			spoilt = append(l[:k:k], l[k+1:]...)
		case r.Intn(3) == 0:
			spoilt = append(l[:k+1:k+1], l[k:]...)
		case r.Intn(2) == 0:
			spoilt[k].Client += r.Intn(5) - 2
		default:
			spoilt[k].Kind = r.Intn(6) - 1
		}
		if looked(t, spoilt) {
			right++
		}
	}
	if right < 300 || right > 2700 {
		t.Errorf("%d of 3000 rows that were spoilt may be", right)
	}
}

// Before orders the calls of a row as a row of calls is ordered: none ahead of itself, one ahead of what the next is ahead of,
// and of two pairs one ahead of the other's end.
func TestP21_2_BeforeOrders(t *testing.T) {
	r := rand.New(rand.NewSource(212))
	for range 200 {
		all, _, _ := hist.Ops(seeded(r, 4, 24))
		for _, a := range all {
			if hist.Before(a, a) {
				t.Fatalf("%v is before itself", a)
			}
			for _, b := range all {
				if want := a.To >= 0 && a.To < b.From; hist.Before(a, b) != want {
					t.Fatalf("Before(%v, %v): %v", a, b, !want)
				}
				for _, c := range all {
					if hist.Before(a, b) && hist.Before(b, c) && !hist.Before(a, c) {
						t.Fatalf("%v, %v, %v: not in a row", a, b, c)
					}
				}
			}
		}
	}
}

// Many clients that wait at once, and many calls of one: no event may look through all that are ahead of it.
func TestP21_1_LongRows(t *testing.T) {
	const n = 200000
	var l []api.Event
	for client := range n {
		l = append(l, called(client, "a"))
	}
	for client := range n {
		l = append(l, answered(client, api.Committed, "x"))
	}
	for range n {
		l = append(l, called(n, "b"), refused(n), answered(n, api.Rejected))
	}
	all, why, at := hist.Ops(l)
	if why != api.OK || at != 0 || len(all) != 2*n {
		t.Fatalf("%d calls, %d at %d", len(all), why, at)
	}
	for k, x := range all[:n] {
		if x.Client != k || x.From != k || x.To != n+k {
			t.Fatalf("call %d: %v", k, x)
		}
	}
	for k, x := range all[n:] {
		if x.Client != n || x.From != 2*n+3*k || x.To != x.From+2 {
			t.Fatalf("call %d of the last: %v", k, x)
		}
	}
	if c, r := hist.Count(all, api.Committed), hist.Count(all, api.Rejected); c != n || r != n {
		t.Errorf("%d Committed, %d Rejected", c, r)
	}
	stopped(t, "the last is answered again", len(l), append(l, answered(n, api.Rejected))...)
}
