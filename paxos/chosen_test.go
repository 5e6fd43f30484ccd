package paxos_test

import (
	"fmt"
	"math/rand"
	"testing"

	"conclave/api"
	"conclave/ballot"
	"conclave/paxos"
)

// Kinds of messages between proposers and acceptors.
const (
	prepare = iota
	promise
	refuse
	accept
	accepted
)

// msg goes from a proposer to an acceptor, or back.
type msg struct {
	kind, proposer, acceptor int
	b                        api.Ballot
	slot                     int // the first one that is asked for, in a prepare
	v                        string
	votes                    []api.Vote
}

// world is proposers and acceptors, and messages that go between them in any order, once, twice or not at all.
type world struct {
	t         *testing.T
	r         *rand.Rand
	nodes     int
	slots     int
	acceptors []*ballot.Acceptor
	proposers []*paxos.Proposer
	under     []msg
	done      map[string]map[int]bool     // who accepted what, by slot, ballot and value
	chosen    map[int]string              // by slot
	ballots   map[int]map[api.Ballot]bool // for which it was chosen, by slot
}

func newWorld(t *testing.T, seed, nodes, slots int) *world {
	w := &world{t: t, r: rand.New(rand.NewSource(int64(seed))), nodes: nodes, slots: slots}
	w.done, w.chosen, w.ballots = map[string]map[int]bool{}, map[int]string{}, map[int]map[api.Ballot]bool{}
	for n := range nodes {
		w.acceptors = append(w.acceptors, ballot.New())
		w.proposers = append(w.proposers, proposer(t, n, nodes))
	}
	return w
}

// begin lets a proposer ask all acceptors for promises.
func (w *world) begin(me int) {
	from := w.r.Intn(2)
	b := w.proposers[me].Begin(from)
	for n := range w.nodes {
		w.under = append(w.under, msg{kind: prepare, proposer: me, acceptor: n, b: b, slot: from})
	}
}

// propose lets a proposer ask all acceptors for votes, if it may.
func (w *world) propose(me int, v string) {
	p, slot := w.proposers[me], w.r.Intn(w.slots)
	v, ok := p.Pick(slot, v)
	for n := range w.nodes {
		if ok {
			w.under = append(w.under, msg{kind: accept, proposer: me, acceptor: n, b: p.Ballot(), slot: slot, v: v})
		}
	}
}

// restart puts a new proposer in the place of one that knows its last ballot alone, or an acceptor that was saved.
func (w *world) restart(me int) {
	if w.r.Intn(2) == 0 {
		old := w.proposers[me].Ballot()
		w.proposers[me] = proposer(w.t, me, w.nodes)
		w.proposers[me].Seen(old)
		return
	}
	a, why := ballot.Load(w.acceptors[me].Save())
	if why != api.OK {
		w.t.Fatalf("Load: %d", why)
	}
	w.acceptors[me] = a
}

// voted notes that an acceptor has accepted, and looks whether that makes another thing chosen than what was.
func (w *world) voted(m msg) {
	key := fmt.Sprint(m.slot, m.b, m.v)
	if w.done[key] == nil {
		w.done[key] = map[int]bool{}
	}
	w.done[key][m.acceptor] = true
	if 2*len(w.done[key]) <= w.nodes {
		return
	}
	if had, ok := w.chosen[m.slot]; ok && had != m.v {
		w.t.Fatalf("slot %d: %q is chosen, and then %q for %v", m.slot, had, m.v, m.b)
	}
	w.chosen[m.slot] = m.v
	if w.ballots[m.slot] == nil {
		w.ballots[m.slot] = map[api.Ballot]bool{}
	}
	w.ballots[m.slot][m.b] = true
}

// carry hands a message to whom it is for.
func (w *world) carry(m msg) {
	a, p := w.acceptors[m.acceptor], w.proposers[m.proposer]
	switch m.kind {
	case prepare:
		ok, votes := a.Prepare(m.b, m.slot)
		back := msg{kind: promise, proposer: m.proposer, acceptor: m.acceptor, b: m.b, votes: votes}
		if !ok {
			back.kind, back.b = refuse, a.Promised()
		}
		w.under = append(w.under, back)
	case promise:
		p.Promise(m.acceptor, m.b, m.votes)
	case refuse:
		p.Seen(m.b)
	case accept:
		back := m
		back.kind = accepted
		if !a.Accept(m.b, m.slot, m.v) {
			back.kind, back.b = refuse, a.Promised()
		} else {
			w.voted(m)
		}
		w.under = append(w.under, back)
	case accepted:
		if p.Accepted(m.acceptor, m.b, m.slot) && w.chosen[m.slot] != m.v {
			w.t.Fatalf("slot %d: %q is told, but %q is chosen", m.slot, m.v, w.chosen[m.slot])
		}
	}
}

// step does one thing: it mostly carries a message, of which the oldest may be the next as well as the newest.
func (w *world) step(k int) {
	what := w.r.Intn(40)
	me := w.r.Intn(w.nodes)
	switch {
	case what < 2 || len(w.under) == 0:
		w.begin(me)
	case what < 8:
		w.propose(me, fmt.Sprint("v", k))
	case what < 9:
		w.restart(me)
	default:
		at := w.r.Intn(len(w.under))
		m := w.under[at]
		if what < 34 { // else it comes once more
			w.under[at] = w.under[len(w.under)-1]
			w.under = w.under[:len(w.under)-1]
		}
		if what > 11 { // else it is lost
			w.carry(m)
		}
	}
}

// TestP8_3 drives worlds in which messages are lost, late or twice, and proposers and acceptors begin anew. What is
// chosen for several ballots must have been the same; that there is such, the last lines look after.
func TestP8_3(t *testing.T) {
	for nodes := 1; nodes <= api.MaxNodes; nodes++ {
		once, more := 0, 0
		for seed := range 150 {
			w := newWorld(t, seed, nodes, 3)
			for k := range 1000 {
				w.step(k)
			}
			for _, ballots := range w.ballots {
				once++
				if len(ballots) > 1 {
					more++
				}
			}
		}
		if once < 100 || more < 50 {
			t.Errorf("%d nodes: %d slots with something chosen, %d of them for several ballots: too few to tell", nodes, once, more)
		}
	}
}

// TestP8_3_HalfIsNotEnough is the row that a proposer who led with half of the nodes would fail.
func TestP8_3_HalfIsNotEnough(t *testing.T) {
	w := newWorld(t, 1, 4, 1)
	a, b := w.proposers[0], w.proposers[3]
	a.Begin(0)
	for n := range 3 {
		ok, l := w.acceptors[n].Prepare(a.Ballot(), 0)
		if !ok {
			t.Fatal("Prepare")
		}
		a.Promise(n, a.Ballot(), l)
	}
	v, ok := a.Pick(0, "x")
	for n := range 3 {
		if !ok || !w.acceptors[n].Accept(a.Ballot(), 0, v) || a.Accepted(n, a.Ballot(), 0) != (n == 2) {
			t.Fatalf("Accept of %d", n)
		}
	}
	b.Begin(0)
	for _, n := range []int{3, 2} {
		unpicked(t, "ahead of more than half", b, 0)
		ok, l := w.acceptors[n].Prepare(b.Ballot(), 0)
		if !ok {
			t.Fatal("Prepare")
		}
		b.Promise(n, b.Ballot(), l)
	}
	unpicked(t, "with half", b, 0)
	_, l := w.acceptors[1].Prepare(b.Ballot(), 0)
	b.Promise(1, b.Ballot(), l)
	picks(t, "with more than half", b, 0, "y", "x")
}
