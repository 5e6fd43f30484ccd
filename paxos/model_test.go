package paxos_test

import (
	"fmt"
	"math/rand"
	"slices"
	"testing"

	"conclave/api"
	"conclave/ballot"
	"conclave/paxos"
)

// model is a proposer as the chapter's words tell it: it keeps what came and works everything out anew.
type model struct {
	me, nodes int
	rounds    []int // its own and those Seen
	ballot    api.Ballot
	from      int
	promised  map[int]bool
	votes     []api.Vote // those that count, as they came
	picked    map[int]string
	accepted  map[int]map[int]bool
}

func newModel(me, nodes int) *model { return &model{me: me, nodes: nodes, rounds: []int{0}} }

func (m *model) begin(from int) api.Ballot {
	round := min(slices.Max(m.rounds)+1, maxRound)
	m.rounds = append(m.rounds, round)
	m.ballot = of(round, m.me)
	m.from, m.votes = from, nil
	m.promised, m.picked, m.accepted = map[int]bool{}, map[int]string{}, map[int]map[int]bool{}
	return m.ballot
}

func (m *model) promise(node int, b api.Ballot, l []api.Vote) {
	m.rounds = append(m.rounds, b.Round)
	if b != m.ballot || b == of(0, 0) || node < 0 || node >= m.nodes || m.promised[node] {
		return
	}
	m.promised[node] = true
	for _, v := range l {
		if v.Slot >= 0 && v.Slot <= 511 && v.Slot >= m.from {
			m.votes = append(m.votes, v)
		}
	}
}

func (m *model) led() bool { return len(m.promised)*2 > m.nodes }

func (m *model) pick(slot int, v string) (string, bool) {
	if !m.led() || slot < 0 || slot < m.from || slot > 511 {
		return "", false
	}
	if had, ok := m.picked[slot]; ok {
		return had, true
	}
	at := slices.DeleteFunc(slices.Clone(m.votes), func(w api.Vote) bool { return w.Slot != slot || w.B == of(0, 0) })
	if len(at) > 0 {
		// MaxFunc answers the first of several.
		v = slices.MaxFunc(at, func(x, y api.Vote) int {
			switch {
			case ballot.Less(x.B, y.B):
				return -1
			case ballot.Less(y.B, x.B):
				return 1
			}
			return 0
		}).V
	}
	m.picked[slot] = v
	return v, true
}

func (m *model) accept(node int, b api.Ballot, slot int) bool {
	if _, ok := m.picked[slot]; !ok || b != m.ballot || node < 0 || node >= m.nodes {
		return false
	}
	if m.accepted[slot] == nil {
		m.accepted[slot] = map[int]bool{}
	}
	m.accepted[slot][node] = true
	return len(m.accepted[slot])*2 > m.nodes
}

func (m *model) open() []int {
	var all []int
	for slot := range 512 {
		_, known := m.picked[slot]
		known = known || slices.ContainsFunc(m.votes, func(v api.Vote) bool { return v.Slot == slot })
		if known && len(m.accepted[slot])*2 <= m.nodes {
			all = append(all, slot)
		}
	}
	return all
}

// pair is a proposer and its model, which are asked the same.
type pair struct {
	p *paxos.Proposer
	m *model
}

// alike looks whether both answer alike what asks nothing.
func (x pair) alike(t *testing.T, row string) bool {
	t.Helper()
	if x.p.Ballot() != x.m.ballot || x.p.Led() != x.m.led() || !slices.Equal(x.p.Open(), x.m.open()) {
		t.Errorf("%s: %v %t %v; not %v %t %v", row, x.p.Ballot(), x.p.Led(), x.p.Open(), x.m.ballot, x.m.led(), x.m.open())
		return false
	}
	return true
}

func (x pair) pick(t *testing.T, row string, slot int, v string) bool {
	t.Helper()
	got, ok := x.p.Pick(slot, v)
	want, right := x.m.pick(slot, v)
	if got != want || ok != right {
		t.Errorf("%s: Pick: %q %t; not %q %t", row, got, ok, want, right)
	}
	return got == want && ok == right
}

func (x pair) accept(t *testing.T, row string, node int, b api.Ballot, slot int) bool {
	t.Helper()
	got, want := x.p.Accepted(node, b, slot), x.m.accept(node, b, slot)
	if got != want {
		t.Errorf("%s: Accepted: %t; not %t", row, got, want)
	}
	return got == want
}

// TestP8_ShortRows does all rows of five steps of a few against the model.
func TestP8_ShortRows(t *testing.T) {
	const kinds, length = 11, 5
	rows := 1
	for range length {
		rows *= kinds
	}
	for row := range rows {
		x := pair{nil, newModel(0, 2)}
		x.p, _ = paxos.New(0, 2)
		for left, k := row, 0; k < length; left, k = left/kinds, k+1 {
			what := fmt.Sprintf("row %d, step %d", row, k)
			b := x.m.ballot
			ok := true
			switch left % kinds {
			case 0:
				ok = x.p.Begin(0) == x.m.begin(0)
			case 1:
				ok = x.p.Begin(1) == x.m.begin(1)
			case 2:
				l := []api.Vote{vote(0, 1, 0, "a"), vote(1, 1, 0, "b")}
				x.p.Promise(0, b, l)
				x.m.promise(0, b, l)
			case 3:
				l := []api.Vote{vote(1, 1, 1, "c"), vote(0, 0, 0, "d")}
				x.p.Promise(1, b, l)
				x.m.promise(1, b, l)
			case 4:
				x.p.Promise(1, of(1, 0), nil)
				x.m.promise(1, of(1, 0), nil)
			case 5:
				ok = x.pick(t, what, 0, "v")
			case 6:
				ok = x.pick(t, what, 1, "w")
			case 7:
				ok = x.pick(t, what, 2, what)
			case 8:
				ok = x.accept(t, what, 0, b, 1)
			case 9:
				ok = x.accept(t, what, 1, b, 1)
			case 10:
				ok = x.accept(t, what, 1, of(1, 0), 2)
			}
			if !ok || !x.alike(t, what) {
				t.Fatalf("%s differs", what)
			}
		}
	}
}

// TestP8_LongRows does long rows of steps of all kinds, right and wrong, against the model.
func TestP8_LongRows(t *testing.T) {
	for seed := range 300 {
		r := rand.New(rand.NewSource(int64(seed)))
		nodes := 1 + r.Intn(api.MaxNodes)
		x := pair{nil, newModel(r.Intn(nodes), nodes)}
		x.p, _ = paxos.New(x.m.me, nodes)
		slots := []int{-1, 0, 1, 2, 3, 100, 510, 511, 512}
		some := func() int { return slots[r.Intn(len(slots))] }
		aBallot := func() api.Ballot {
			if r.Intn(5) > 0 {
				return x.m.ballot
			}
			return of(x.m.ballot.Round+r.Intn(4)-2, r.Intn(nodes+1)-1)
		}
		for k := range 120 {
			what := fmt.Sprintf("seed %d, step %d", seed, k)
			ok := true
			switch r.Intn(10) {
			case 0:
				if r.Intn(2) == 0 {
					b := of(r.Intn(30)-3, r.Intn(5))
					x.p.Seen(b)
					x.m.rounds = append(x.m.rounds, b.Round)
				}
				from := some()
				ok = x.p.Begin(from) == x.m.begin(from)
			case 1, 2, 3:
				var l []api.Vote
				for range r.Intn(4) {
					l = append(l, vote(some(), r.Intn(4)-1, r.Intn(3), fmt.Sprint(k, len(l))))
				}
				node, b := r.Intn(nodes+2)-1, aBallot()
				x.p.Promise(node, b, l)
				x.m.promise(node, b, l)
			case 4, 5, 6:
				ok = x.pick(t, what, some(), what)
			default:
				ok = x.accept(t, what, r.Intn(nodes+2)-1, aBallot(), some())
			}
			if !ok || !x.alike(t, what) {
				t.Fatalf("%s differs", what)
			}
		}
	}
}
