package paxos_test

import (
	"fmt"
	"math"
	"slices"
	"strings"
	"testing"

	"conclave/api"
	"conclave/ballot"
	"conclave/paxos"
)

const maxRound = 1 << 30

func of(round, node int) api.Ballot { return api.Ballot{Round: round, Node: node} }

func vote(slot, round, node int, v string) api.Vote {
	return api.Vote{Slot: slot, B: of(round, node), V: v}
}

// proposer answers one that has no ballot yet.
func proposer(t *testing.T, me, nodes int) *paxos.Proposer {
	t.Helper()
	p, why := paxos.New(me, nodes)
	if p == nil || why != api.OK {
		t.Fatalf("New(%d, %d): %t, %d", me, nodes, p != nil, why)
	}
	return p
}

// led answers node 0's proposer of nodes, whose ballot for slots from on all of its nodes have promised, with votes
// of the first.
func led(t *testing.T, nodes, from int, votes ...api.Vote) *paxos.Proposer {
	t.Helper()
	p := proposer(t, 0, nodes)
	p.Begin(from)
	p.Promise(0, p.Ballot(), votes)
	for n := 1; n < nodes; n++ {
		p.Promise(n, p.Ballot(), nil)
	}
	if !p.Led() {
		t.Fatalf("all of %d have promised, and nobody leads", nodes)
	}
	return p
}

// begins looks whether Begin(from) answers want, and Ballot behind it.
func begins(t *testing.T, what string, p *paxos.Proposer, from int, want api.Ballot) {
	t.Helper()
	if got := p.Begin(from); got != want || p.Ballot() != want {
		t.Errorf("%s: Begin: %v, Ballot: %v; not %v", what, got, p.Ballot(), want)
	}
}

// picks looks whether Pick answers want and true.
func picks(t *testing.T, what string, p *paxos.Proposer, slot int, v, want string) {
	t.Helper()
	if got, ok := p.Pick(slot, v); got != want || !ok {
		t.Errorf("%s: Pick(%d, %q): %q, %t; not %q, true", what, slot, v, got, ok, want)
	}
}

// unpicked looks whether Pick answers false, and leaves no slot open.
func unpicked(t *testing.T, what string, p *paxos.Proposer, slot int) {
	t.Helper()
	before := p.Open()
	if got, ok := p.Pick(slot, "v"); got != "" || ok {
		t.Errorf("%s: Pick(%d): %q, %t; not false", what, slot, got, ok)
	}
	opens(t, what, p, before...)
}

// accepts looks whether Accepted answers want.
func accepts(t *testing.T, what string, p *paxos.Proposer, node int, b api.Ballot, slot int, want bool) {
	t.Helper()
	if got := p.Accepted(node, b, slot); got != want {
		t.Errorf("%s: Accepted(%d, %v, %d): %t", what, node, b, slot, got)
	}
}

// opens looks whether Open answers want.
func opens(t *testing.T, what string, p *paxos.Proposer, want ...int) {
	t.Helper()
	if got := p.Open(); !slices.Equal(got, want) {
		t.Errorf("%s: Open: %v; not %v", what, got, want)
	}
}

func TestP8_1_Run(t *testing.T) {
	begins(t, "the first run", proposer(t, 0, 3), 0, of(1, 0))
}

func TestP8_2_Run(t *testing.T) {
	for _, last := range []bool{false, true} {
		p := proposer(t, 0, 3)
		b := p.Begin(0)
		lists := [][]api.Vote{{vote(5, 1, 1, "x")}, nil}
		if last {
			slices.Reverse(lists)
		}
		p.Promise(1, b, lists[0])
		p.Promise(2, b, lists[1])
		picks(t, "the second run", p, 5, "y", "x")
		picks(t, "the second run", p, 6, "y", "y")
	}
}

func TestP8_2_Examples(t *testing.T) {
	p := proposer(t, 0, 3)
	unpicked(t, "ahead of Begin", p, 0)
	b := p.Begin(0)
	unpicked(t, "ahead of Led", p, 0)
	p.Promise(1, b, nil)
	p.Promise(1, b, nil)
	if p.Led() {
		t.Error("one node's promise, twice, leads three")
	}
	unpicked(t, "one node's promise, twice", p, 0)
	one := proposer(t, 0, 1)
	one.Promise(0, one.Begin(0), nil)
	if !one.Led() {
		t.Error("the one node's own promise does not lead")
	}
}

func TestP8_1_New(t *testing.T) {
	numbers := []int{math.MinInt, math.MinInt32, -2, -1, 0, 1, 2, 3, 4, 5, 6, 7, math.MaxInt32, math.MaxInt}
	for _, me := range numbers {
		for _, nodes := range numbers {
			want := api.OK
			if nodes < 1 || nodes > 5 || me < 0 || me > nodes-1 {
				want = api.ErrArg
			}
			if p, why := paxos.New(me, nodes); why != want || (p != nil) != (want == api.OK) {
				t.Errorf("New(%d, %d): %t, %d; not %d", me, nodes, p != nil, why, want)
			}
		}
	}
}

func TestP8_1_AheadOfBegin(t *testing.T) {
	for nodes := 1; nodes <= api.MaxNodes; nodes++ {
		p := proposer(t, nodes-1, nodes)
		for n := range nodes {
			p.Promise(n, api.Ballot{}, []api.Vote{vote(3, 1, 0, "x")})
		}
		if p.Ballot() != (api.Ballot{}) || p.Led() {
			t.Errorf("%d nodes: Ballot: %v, Led: %t", nodes, p.Ballot(), p.Led())
		}
		opens(t, "ahead of Begin", p)
		unpicked(t, "ahead of Begin", p, 3)
		accepts(t, "ahead of Begin", p, 0, api.Ballot{}, 3, false)
		begins(t, "behind promises of {0 0}", p, 0, of(1, nodes-1))
		if p.Led() {
			t.Error("promises of {0 0} lead")
		}
		opens(t, "behind promises of {0 0}", p)
	}
}

func TestP8_1_Begin(t *testing.T) {
	for what, c := range map[string]struct {
		seen []api.Ballot
		want int
	}{
		"behind nothing":                      {nil, 1},
		"behind {0 0}":                        {[]api.Ballot{of(0, 0)}, 1},
		"behind Round 0 of a greater node":    {[]api.Ballot{of(0, 4)}, 1},
		"behind its own first":                {[]api.Ballot{of(1, 1)}, 2},
		"behind a lower node's of Round 1":    {[]api.Ballot{of(1, 0)}, 2},
		"behind a negative Node's of Round 1": {[]api.Ballot{of(1, -7)}, 2},
		"behind a greater node's of Round 1":  {[]api.Ballot{of(1, 2)}, 2},
		"behind a greater Round":              {[]api.Ballot{of(7, 0)}, 8},
		"behind rising ones":                  {[]api.Ballot{of(3, 0), of(9, 2)}, 10},
		"behind falling ones":                 {[]api.Ballot{of(9, 2), of(3, 4)}, 10},
		"behind a negative one":               {[]api.Ballot{of(-5, 0)}, 1},
		"behind the least one":                {[]api.Ballot{of(math.MinInt, math.MinInt)}, 1},
		"behind 4 and a negative one":         {[]api.Ballot{of(4, 0), of(-9, 0)}, 5},
		"behind 2^30 - 2":                     {[]api.Ballot{of(maxRound-2, 0)}, maxRound - 1},
		"behind 2^30 - 1":                     {[]api.Ballot{of(maxRound-1, 0)}, maxRound},
		"behind 2^30":                         {[]api.Ballot{of(maxRound, 0)}, maxRound},
		"behind 2^30 + 1":                     {[]api.Ballot{of(maxRound+1, 0)}, maxRound},
		"behind 2^31":                         {[]api.Ballot{of(1<<31, 0)}, maxRound},
		"behind 2^32 + 5":                     {[]api.Ballot{of(1<<32+5, 0)}, maxRound},
		"behind the greatest one":             {[]api.Ballot{of(math.MaxInt, math.MaxInt)}, maxRound},
		"behind the greatest one and a low":   {[]api.Ballot{of(math.MaxInt, 0), of(2, 0)}, maxRound},
	} {
		p := proposer(t, 1, 3)
		for _, b := range c.seen {
			p.Seen(b)
		}
		if p.Ballot() != (api.Ballot{}) {
			t.Errorf("%s: Ballot: %v", what, p.Ballot())
		}
		begins(t, what, p, 0, of(c.want, 1))
		begins(t, what+", once more", p, 0, of(min(c.want+1, maxRound), 1))
		p.Seen(of(c.want, 4))
		p.Seen(of(-3, 0))
		begins(t, what+", a third time", p, 0, of(min(c.want+2, maxRound), 1))
	}
}

func TestP8_1_SeenTurnsNothingElse(t *testing.T) {
	p := led(t, 3, 0, vote(4, 1, 1, "x"))
	picks(t, "led", p, 4, "y", "x")
	accepts(t, "led", p, 0, of(1, 0), 4, false)
	p.Seen(of(9, 2))
	if p.Ballot() != of(1, 0) || !p.Led() {
		t.Errorf("behind Seen: %v, %t", p.Ballot(), p.Led())
	}
	picks(t, "behind Seen", p, 4, "z", "x")
	picks(t, "behind Seen", p, 5, "z", "z")
	accepts(t, "behind Seen", p, 1, of(1, 0), 4, true)
	begins(t, "behind Seen", p, 0, of(10, 0))
}

func TestP8_1_BeginForgets(t *testing.T) {
	for _, seen := range []int{0, 7, maxRound} {
		p := proposer(t, 0, 3)
		p.Seen(of(seen, 1))
		old := p.Begin(0)
		p.Promise(0, old, []api.Vote{vote(2, 1, 1, "x"), vote(3, 1, 1, "w")})
		p.Promise(1, old, nil)
		picks(t, "the first ballot", p, 2, "y", "x")
		picks(t, "the first ballot", p, 4, "y", "y")
		accepts(t, "the first ballot", p, 0, old, 2, false)
		accepts(t, "the first ballot", p, 1, old, 2, true)
		accepts(t, "the first ballot", p, 0, old, 4, false)
		b := p.Begin(0)
		if p.Led() {
			t.Error("promises of the ballot ahead lead")
		}
		opens(t, "behind Begin", p)
		unpicked(t, "behind Begin", p, 2)
		accepts(t, "not picked any more", p, 2, b, 2, false)
		p.Promise(0, b, nil)
		if p.Led() {
			t.Error("one promise, and one of the ballot ahead, lead")
		}
		p.Promise(1, b, nil)
		if !p.Led() {
			t.Error("who promised the ballot ahead does not count")
		}
		opens(t, "led anew", p)
		accepts(t, "not picked anew", p, 2, b, 2, false)
		picks(t, "without the votes", p, 2, "a", "a")
		picks(t, "without the votes", p, 3, "b", "b")
		picks(t, "without what was picked", p, 4, "c", "c")
		opens(t, "picked anew", p, 2, 3, 4)
		accepts(t, "accepted anew", p, 2, b, 2, false)
		accepts(t, "accepted anew", p, 2, b, 4, false)
		accepts(t, "accepted anew", p, 0, b, 4, true)
	}
}

func TestP8_1_BeginForgetsFrom(t *testing.T) {
	p := led(t, 1, 10)
	unpicked(t, "below from", p, 9)
	for _, c := range []struct{ from, first int }{{3, 3}, {0, 0}, {-1, 0}, {math.MinInt, 0}, {500, 500}, {511, 511}, {10, 10}} {
		p.Promise(0, p.Begin(c.from), []api.Vote{vote(c.first-1, 1, 0, "no"), vote(c.first, 1, 0, "x")})
		opens(t, fmt.Sprint("from ", c.from), p, c.first)
		unpicked(t, "below from", p, c.first-1)
		picks(t, "at from", p, c.first, "v", "x")
	}
	for _, from := range []int{512, 513, math.MaxInt} {
		p.Promise(0, p.Begin(from), []api.Vote{vote(511, 1, 0, "no"), vote(512, 1, 0, "no"), vote(math.MaxInt, 1, 0, "no")})
		if !p.Led() {
			t.Errorf("from %d: nobody leads", from)
		}
		opens(t, fmt.Sprint("from ", from), p)
		for _, slot := range []int{-1, 0, 511, 512, 513, math.MaxInt} {
			unpicked(t, fmt.Sprint("from ", from), p, slot)
		}
	}
}

func TestP8_1_PromiseThatDoesNotCount(t *testing.T) {
	votes := []api.Vote{vote(5, 9, 9, "no")}
	for what, c := range map[string]struct {
		node int
		b    api.Ballot
		next int
	}{
		"another node's ballot":   {1, of(1, 1), 2},
		"a negative node's":       {1, of(1, -1), 2},
		"a lower Round":           {1, of(0, 0), 2},
		"a negative Round":        {1, of(-1, 0), 2},
		"a greater Round":         {1, of(2, 0), 3},
		"a far greater Round":     {1, of(40, 0), 41},
		"the greatest Round":      {1, of(math.MaxInt, 0), maxRound},
		"node -1":                 {-1, of(1, 0), 2},
		"node 3 of 3":             {3, of(1, 0), 2},
		"node 4 of 3":             {4, of(1, 0), 2},
		"the least node":          {math.MinInt, of(1, 0), 2},
		"the greatest node":       {math.MaxInt, of(1, 0), 2},
		"node 64":                 {64, of(1, 0), 2},
		"node 257":                {257, of(1, 0), 2},
		"no node, a far Round":    {9, of(40, 0), 41},
		"a node that did already": {0, of(1, 0), 2},
	} {
		p := proposer(t, 0, 3)
		p.Begin(0)
		p.Promise(0, of(1, 0), nil)
		for range 5 {
			p.Promise(c.node, c.b, votes)
		}
		if p.Led() || p.Ballot() != of(1, 0) {
			t.Errorf("%s counts", what)
		}
		opens(t, what, p)
		p.Promise(2, of(1, 0), nil)
		if !p.Led() {
			t.Errorf("%s: two of three do not lead", what)
		}
		picks(t, what, p, 5, "v", "v")
		begins(t, what+" is Seen", p, 0, of(c.next, 0))
	}
}

func TestP8_1_PromiseIsSeenAheadOfBegin(t *testing.T) {
	p := proposer(t, 2, 3)
	p.Promise(9, of(6, 0), nil)
	begins(t, "a promise ahead of Begin", p, 0, of(7, 2))
}

func TestP8_1_AcceptedAndVotesAreNotSeen(t *testing.T) {
	p := led(t, 3, 0, vote(5, 30, 1, "x"))
	picks(t, "led", p, 5, "v", "x")
	accepts(t, "another ballot", p, 1, of(50, 1), 5, false)
	begins(t, "behind votes and Accepted of greater ballots", p, 0, of(2, 0))
}

func TestP8_1_PromiseOfEachNodeOnce(t *testing.T) {
	for nodes := 1; nodes <= api.MaxNodes; nodes++ {
		for said := range 1 << nodes {
			p := proposer(t, 0, nodes)
			b := p.Begin(0)
			count := 0
			for range 2 {
				for n := range nodes {
					if said>>n&1 == 1 {
						p.Promise(n, b, nil)
					}
				}
			}
			for n := range nodes {
				count += said >> n & 1
			}
			if p.Led() != (count > nodes/2) {
				t.Errorf("%d of %d: Led: %t", count, nodes, p.Led())
			}
		}
	}
}

func TestP8_1_VotesAtSlots(t *testing.T) {
	slots := []int{math.MinInt, -513, -512, -1, 0, 1, 6, 7, 8, 510, 511, 512, 513, 1 << 32, math.MaxInt}
	for _, from := range []int{-3, 0, 1, 7, 511, 512} {
		for _, slot := range slots {
			p := led(t, 3, from, vote(slot, 1, 1, "x"))
			what := fmt.Sprintf("from %d, a vote at %d", from, slot)
			if slot < 0 || slot < from || slot > 511 {
				opens(t, what, p)
				unpicked(t, what, p, slot)
				continue
			}
			opens(t, what, p, slot)
			picks(t, what, p, slot, "v", "x")
			if slot < 511 {
				picks(t, what, p, slot+1, "v", "v")
			}
		}
	}
}

func TestP8_1_WrongVotesBesideRightOnes(t *testing.T) {
	p := led(t, 1, 3, vote(2, 1, 0, "a"), vote(4, 1, 0, "b"), vote(-1, 1, 0, "c"), vote(3, 1, 0, "d"), vote(512, 1, 0, "e"), vote(511, 1, 0, "f"))
	opens(t, "votes of all kinds", p, 3, 4, 511)
	picks(t, "votes of all kinds", p, 4, "v", "b")
	picks(t, "votes of all kinds", p, 3, "v", "d")
	picks(t, "votes of all kinds", p, 511, "v", "f")
}

func TestP8_2_LedStays(t *testing.T) {
	for nodes, half := range map[int]int{1: 0, 2: 1, 3: 1, 4: 2, 5: 2} {
		p := proposer(t, nodes-1, nodes)
		b := p.Begin(0)
		for n := range nodes {
			if p.Led() != (n > half) {
				t.Errorf("%d of %d: Led: %t", n, nodes, p.Led())
			}
			p.Promise(n, b, nil)
		}
		p.Promise(0, of(0, 3), nil)
		p.Promise(0, of(80, 3), nil)
		if !p.Led() {
			t.Errorf("all of %d: not Led", nodes)
		}
	}
}

func TestP8_2_PickAheadOfLed(t *testing.T) {
	p := proposer(t, 0, 5)
	b := p.Begin(0)
	for n := range 2 {
		p.Promise(n, b, []api.Vote{vote(4, 1, 1, "x")})
		for _, slot := range []int{-1, 0, 4, 511, 512} {
			unpicked(t, "ahead of Led", p, slot)
			accepts(t, "ahead of Led", p, 0, b, slot, false)
		}
	}
	p.Promise(3, b, []api.Vote{vote(4, 1, 2, "y")})
	picks(t, "with the vote that comes last", p, 4, "v", "y")
	picks(t, "what was not picked ahead", p, 0, "w", "w")
}

func TestP8_2_PickAtSlots(t *testing.T) {
	for _, c := range []struct {
		from, slot int
		ok         bool
	}{{0, math.MinInt, false}, {0, -1, false}, {0, 0, true}, {0, 510, true}, {0, 511, true}, {0, 512, false}, {0, 513, false}, {0, math.MaxInt, false}, {-5, -5, false}, {-5, -1, false}, {-5, 0, true}, {5, 0, false}, {5, 4, false}, {5, 5, true}, {5, 6, true}, {5, 511, true}, {5, 512, false}, {511, 510, false}, {511, 511, true}, {511, 512, false}} {
		p := led(t, 3, c.from)
		what := fmt.Sprint("from ", c.from)
		if !c.ok {
			unpicked(t, what, p, c.slot)
			accepts(t, what, p, 0, p.Ballot(), c.slot, false)
			continue
		}
		picks(t, what, p, c.slot, "v", "v")
		opens(t, what, p, c.slot)
	}
}

func TestP8_2_PickTwice(t *testing.T) {
	long := strings.Repeat("ab", 3000)
	for _, v := range []string{"", "x", "\x00\xff", long} {
		p := led(t, 3, 0, vote(1, 1, 2, v))
		for _, slot := range []int{0, 1} {
			first := v
			if slot == 1 {
				first = "other"
			}
			picks(t, "the first time", p, slot, first, v)
			picks(t, "the second time", p, slot, "another", v)
			picks(t, "the third time", p, slot, "", v)
		}
		picks(t, "a slot of its own", p, 2, "own", "own")
	}
}

func TestP8_2_PickStaysBehindLatePromises(t *testing.T) {
	p := proposer(t, 0, 5)
	b := p.Begin(0)
	p.Promise(0, b, []api.Vote{vote(1, 1, 0, "low")})
	p.Promise(1, b, nil)
	p.Promise(2, b, nil)
	picks(t, "ahead", p, 1, "v", "low")
	picks(t, "ahead", p, 2, "v", "v")
	p.Promise(3, b, []api.Vote{vote(1, 1, 4, "high"), vote(2, 1, 4, "high"), vote(3, 1, 4, "high")})
	picks(t, "behind", p, 1, "w", "low")
	picks(t, "behind", p, 2, "w", "v")
	picks(t, "behind", p, 3, "w", "high")
	accepts(t, "behind", p, 0, b, 1, false)
}

// TestP8_2_PickOfVotes gives the same votes in each order, of one node and of three: the greatest ballot's goes, of
// several the first that came.
func TestP8_2_PickOfVotes(t *testing.T) {
	ballots := []api.Ballot{of(0, 0), of(0, 1), of(1, 0), of(1, 2), of(2, 0), of(2, 0), of(maxRound, 4), of(-1, 3)}
	for i, x := range ballots {
		for j, y := range ballots {
			for k, z := range ballots {
				votes := []api.Vote{{Slot: 3, B: x, V: fmt.Sprint("a", i)}, {Slot: 3, B: y, V: fmt.Sprint("b", j)}, {Slot: 3, B: z, V: fmt.Sprint("c", k)}}
				want, best := "v", api.Ballot{}
				for _, v := range votes {
					if v.B != (api.Ballot{}) && (want == "v" || ballot.Less(best, v.B)) {
						want, best = v.V, v.B
					}
				}
				what := fmt.Sprint("votes ", votes)
				p := led(t, 1, 0, votes...)
				opens(t, what, p, 3)
				picks(t, what, p, 3, "v", want)
				p = proposer(t, 0, 3)
				for n, b := 2, p.Begin(0); n >= 0; n-- {
					p.Promise(n, b, votes[2-n:3-n])
				}
				picks(t, what+" of three", p, 3, "v", want)
				picks(t, what+" of three, elsewhere", p, 4, "v", "v")
			}
		}
	}
}

func TestP8_2_PickOfZeroVotes(t *testing.T) {
	p := led(t, 3, 0, vote(5, 0, 0, "nobody's"))
	opens(t, "a vote of {0 0} counts", p, 5)
	picks(t, "a vote of {0 0} binds nobody", p, 5, "v", "v")
	opens(t, "picked", p, 5)
	accepts(t, "picked", p, 1, p.Ballot(), 5, false)
	accepts(t, "picked", p, 2, p.Ballot(), 5, true)
	opens(t, "chosen", p)
}

func TestP8_2_AcceptedThatDoesNotCount(t *testing.T) {
	for what, c := range map[string]struct {
		node int
		b    api.Ballot
		slot int
	}{
		"another node's ballot":             {1, of(1, 1), 5},
		"a lower Round":                     {1, of(0, 0), 5},
		"a greater Round":                   {1, of(2, 0), 5},
		"node -1":                           {-1, of(1, 0), 5},
		"node 3 of 3":                       {3, of(1, 0), 5},
		"node 4 of 3":                       {4, of(1, 0), 5},
		"the least node":                    {math.MinInt, of(1, 0), 5},
		"the greatest node":                 {math.MaxInt, of(1, 0), 5},
		"node 64":                           {64, of(1, 0), 5},
		"slot -1":                           {1, of(1, 0), -1},
		"a slot below, not picked":          {1, of(1, 0), 4},
		"a slot above, not picked":          {1, of(1, 0), 6},
		"a slot with a vote, not picked":    {1, of(1, 0), 7},
		"slot 511, not picked":              {1, of(1, 0), 511},
		"slot 512":                          {1, of(1, 0), 512},
		"the least slot":                    {1, of(1, 0), math.MinInt},
		"the greatest slot":                 {1, of(1, 0), math.MaxInt},
		"no node, another ballot, no slot":  {9, of(3, 3), 999},
		"a node that has accepted it twice": {0, of(1, 0), 5},
	} {
		p := led(t, 3, 0, vote(7, 1, 1, "x"))
		picks(t, what, p, 5, "v", "v")
		accepts(t, what+": the first", p, 0, of(1, 0), 5, false)
		for range 5 {
			accepts(t, what, p, c.node, c.b, c.slot, false)
		}
		opens(t, what, p, 5, 7)
		accepts(t, what+": the second", p, 2, of(1, 0), 5, true)
		opens(t, what, p, 7)
		picks(t, what, p, 7, "v", "x")
		accepts(t, what+": elsewhere", p, 0, of(1, 0), 7, false)
		if c.node == 0 || c.slot == 7 { // it counts now
			continue
		}
		accepts(t, what+": behind more than half", p, c.node, c.b, c.slot, false)
		opens(t, what, p, 7)
	}
}

// TestP8_2_Accepted asks with each set of nodes, each of them twice.
func TestP8_2_Accepted(t *testing.T) {
	for nodes := 1; nodes <= api.MaxNodes; nodes++ {
		for said := range 1 << nodes {
			p := led(t, nodes, 0)
			picks(t, "led", p, 9, "v", "v")
			picks(t, "led", p, 2, "w", "w")
			count := 0
			for n := range nodes {
				if said>>n&1 == 0 {
					continue
				}
				count++
				what := fmt.Sprintf("%d of %d", count, nodes)
				accepts(t, what, p, n, p.Ballot(), 9, count > nodes/2)
				accepts(t, what+", twice", p, n, p.Ballot(), 9, count > nodes/2)
				if count > nodes/2 {
					opens(t, what, p, 2)
				} else {
					opens(t, what, p, 2, 9)
				}
			}
			picks(t, "behind all", p, 9, "x", "v")
		}
	}
}

func TestP8_2_Open(t *testing.T) {
	p := proposer(t, 0, 3)
	opens(t, "ahead of all", p)
	b := p.Begin(1)
	opens(t, "behind Begin", p)
	p.Promise(2, b, []api.Vote{vote(400, 1, 1, "a"), vote(8, 1, 1, "b"), vote(8, 1, 2, "c"), vote(511, 1, 1, "d"), vote(0, 1, 1, "e")})
	opens(t, "ahead of Led", p, 8, 400, 511)
	p.Promise(0, b, []api.Vote{vote(2, 1, 1, "f")})
	opens(t, "led", p, 2, 8, 400, 511)
	p.Promise(1, b, []api.Vote{vote(1, 1, 1, "g"), vote(8, 2, 2, "h")})
	opens(t, "behind a late promise", p, 1, 2, 8, 400, 511)
	picks(t, "a slot between", p, 300, "v", "v")
	picks(t, "a slot with votes", p, 8, "v", "h")
	opens(t, "picked", p, 1, 2, 8, 300, 400, 511)
	for _, slot := range []int{8, 300} {
		accepts(t, "the first", p, 0, b, slot, false)
		accepts(t, "the second", p, 1, b, slot, true)
	}
	opens(t, "chosen", p, 1, 2, 400, 511)
	picks(t, "picked once more", p, 300, "w", "v")
	opens(t, "picked once more", p, 1, 2, 400, 511)
	for _, slot := range p.Open() {
		p.Pick(slot, "v")
		p.Accepted(1, b, slot)
		p.Accepted(2, b, slot)
	}
	opens(t, "all chosen", p)
	for slot := 511; slot >= 1; slot-- {
		p.Pick(slot, "v")
	}
	var want []int
	for slot := 1; slot < 512; slot++ {
		if !slices.Contains([]int{1, 2, 8, 300, 400, 511}, slot) {
			want = append(want, slot)
		}
	}
	opens(t, "all slots picked", p, want...)
}

func TestP8_1_NilAndEmptyVotes(t *testing.T) {
	for _, l := range [][]api.Vote{nil, {}, make([]api.Vote, 0, 4)} {
		p := proposer(t, 0, 1)
		p.Promise(0, p.Begin(0), l)
		if !p.Led() {
			t.Error("a promise without votes does not count")
		}
		opens(t, "no votes", p)
		picks(t, "no votes", p, 0, "v", "v")
	}
}

func TestP8_1_VotesBehindTheLength(t *testing.T) {
	p := proposer(t, 0, 1)
	l := []api.Vote{vote(1, 1, 1, "x"), vote(2, 1, 1, "y")}
	p.Promise(0, p.Begin(0), l[:1])
	opens(t, "one vote of two", p, 1)
	if l[1] != vote(2, 1, 1, "y") {
		t.Error("the spare room was written to")
	}
}

func TestR2_Promise(t *testing.T) {
	p := proposer(t, 0, 3)
	b := p.Begin(0)
	l := []api.Vote{vote(1, 1, 1, "x"), vote(2, 1, 1, "y"), vote(3, 0, 0, "z"), vote(9, 1, 1, "spare")}
	before := slices.Clone(l)
	p.Promise(0, b, l[:3])
	p.Promise(1, b, nil)
	if !slices.Equal(l, before) {
		t.Errorf("Promise has written to its votes: %v", l)
	}
	for i := range l {
		l[i] = vote(7, 5, 5, "written")
	}
	opens(t, "behind writing", p, 1, 2, 3)
	picks(t, "behind writing", p, 1, "v", "x")
	picks(t, "behind writing", p, 2, "v", "y")
	picks(t, "behind writing", p, 3, "v", "v")
	picks(t, "behind writing", p, 7, "v", "v")
	if slices.ContainsFunc(l, func(v api.Vote) bool { return v != vote(7, 5, 5, "written") }) {
		t.Errorf("the proposer has written to what it was handed: %v", l)
	}
}

func TestR2_Open(t *testing.T) {
	p := led(t, 3, 0, vote(1, 1, 1, "x"), vote(2, 1, 1, "y"), vote(3, 1, 1, "z"))
	got := p.Open()
	other := p.Open()
	for i := range got[:cap(got)] {
		got[:cap(got)][i] = 77
	}
	if !slices.Equal(other, []int{1, 2, 3}) {
		t.Errorf("two answers share memory: %v", other)
	}
	opens(t, "behind writing", p, 1, 2, 3)
	kept := p.Open()
	picks(t, "behind writing", p, 0, "v", "v")
	if !slices.Equal(kept, []int{1, 2, 3}) {
		t.Errorf("an answer was written to: %v", kept)
	}
}

// TestR4_Apart: what one proposer hears another does not.
func TestR4_Apart(t *testing.T) {
	p, q := led(t, 3, 0, vote(1, 1, 1, "x")), proposer(t, 0, 3)
	picks(t, "one", p, 4, "v", "v")
	begins(t, "another", q, 0, of(1, 0))
	if q.Led() {
		t.Error("another's promises lead")
	}
	opens(t, "another", q)
}
