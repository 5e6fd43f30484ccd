package txn_test

import (
	"fmt"
	"math"
	"slices"
	"testing"

	"conclave/api"
	"conclave/ranges"
	"conclave/txn"
)

// thirds answers the Map of three groups and for each group a few cases that are its.
func thirds(t *testing.T) (ranges.Map, [3][]string) {
	t.Helper()
	m, why := ranges.New(3)
	if why != api.OK {
		t.Fatalf("New(3): %d", why)
	}
	var all [3][]string
	for k, left := 0, 3*4; left > 0; k++ {
		name := fmt.Sprint("c", k)
		if g, _ := ranges.Owner(m, name); len(all[g]) < 4 {
			all[g] = append(all[g], name)
			left--
		}
	}
	return m, all
}

// of answers a transaction whose operations are these groups', in that order.
func of(t *testing.T, owners ...int) *txn.Txn {
	t.Helper()
	m, names := thirds(t)
	var l []api.Op
	for k, g := range owners {
		l = append(l, api.Op{Kind: 1 + k, Case: names[g][k], Name: "n", N: k})
	}
	x, why := txn.New("t", l, m)
	if x == nil || why != api.OK {
		t.Fatalf("New of %v: %v, %d", owners, x, why)
	}
	return x
}

// seen is all that a transaction tells but its bytes.
type seen struct {
	groups, left []int
	outcome      int
	reply        api.Reply
}

func look(x *txn.Txn) seen { return seen{x.Groups(), x.Left(), x.Outcome(), x.Reply()} }

func (a seen) same(b seen) bool {
	return slices.Equal(a.groups, b.groups) && slices.Equal(a.left, b.left) && a.outcome == b.outcome && sameReply(a.reply, b.reply)
}

func sameReply(a, b api.Reply) bool {
	return a.Outcome == b.Outcome && slices.Equal(a.Texts, b.Texts) && a.At == b.At && a.Why == b.Why
}

// is looks whether x tells that outcome, that reply, and that these are left.
func is(t *testing.T, what string, x *txn.Txn, reply api.Reply, left ...int) {
	t.Helper()
	if got := look(x); got.outcome != reply.Outcome || !sameReply(got.reply, reply) || !slices.Equal(got.left, left) {
		t.Errorf("%s: outcome %d, reply %v, left %v; not %v, left %v", what, got.outcome, got.reply, got.left, reply, left)
	}
}

func open() api.Reply    { return api.Reply{} }
func aborted() api.Reply { return api.Reply{Outcome: api.Aborted} }

func committed(texts ...string) api.Reply {
	return api.Reply{Outcome: api.Committed, Texts: texts}
}

func rejected(at int, why api.Errno) api.Reply {
	return api.Reply{Outcome: api.Rejected, At: at, Why: why}
}

// yes lets group vote for it, with these texts.
func yes(x *txn.Txn, group int, texts ...string) { x.Vote(group, true, texts, 0, api.OK) }

// no lets group vote against it.
func no(x *txn.Txn, group, at int, why api.Errno) { x.Vote(group, false, nil, at, why) }

// numbers are such as may be no group, no place or no refusal.
func numbers() []int {
	return []int{math.MinInt, -1 << 32, -3, -1, 0, 1, 2, 3, 4, 5, 255, 256, 1 << 32, 1<<32 + 1, 1 << 62, math.MaxInt}
}

func TestP18_1_New(t *testing.T) {
	m, names := thirds(t)
	ops := func(n int) []api.Op {
		var l []api.Op
		for range n {
			l = append(l, api.Op{Kind: api.Read, Case: names[0][0]})
		}
		return l
	}
	wrong := map[string]ranges.Map{
		"nothing":             {},
		"no Parts":            {Epoch: 1},
		"Epoch 0":             {Parts: m.Parts},
		"Epoch beyond":        {Epoch: 1<<30 + 1, Parts: m.Parts},
		"a gap":               {Epoch: 1, Parts: []ranges.Part{{Lo: 0, Hi: 9, Group: 0}, {Lo: 10, Hi: 256, Group: 1}}},
		"ends early":          {Epoch: 1, Parts: m.Parts[:2]},
		"a group beyond":      {Epoch: 1, Parts: []ranges.Part{{Lo: 0, Hi: 256, Group: api.MaxGroups}}},
		"a group below 0":     {Epoch: 1, Parts: []ranges.Part{{Lo: 0, Hi: 256, Group: -1}}},
		"neighbours like one": {Epoch: 1, Parts: []ranges.Part{{Lo: 0, Hi: 9, Group: 0}, {Lo: 9, Hi: 256, Group: 0}}},
	}
	refused := func(what, tx string, l []api.Op, m ranges.Map) {
		t.Helper()
		if x, why := txn.New(tx, l, m); x != nil || why != api.ErrArg {
			t.Errorf("%s: %v, %d", what, x, why)
		}
	}
	taken := func(what, tx string, l []api.Op, m ranges.Map) {
		t.Helper()
		if x, why := txn.New(tx, l, m); x == nil || why != api.OK || x.Outcome() != api.Open {
			t.Errorf("%s: %v, %d", what, x, why)
		}
	}
	refused("no name", "", ops(1), m)
	refused("nil operations", "t", nil, m)
	refused("no operations", "t", []api.Op{}, m)
	refused("no operations, and room for some", "t", ops(3)[:0], m)
	refused("one too many", "t", ops(api.MaxOps+1), m)
	refused("many too many", "t", ops(1000), m)
	for what, w := range wrong {
		refused(what, "t", ops(1), w)
	}
	refused("all wrong", "", nil, ranges.Map{})
	for n := 1; n <= api.MaxOps; n++ {
		taken(fmt.Sprint(n, " operations"), "t", ops(n), m)
	}
	for _, tx := range []string{"\x00", " ", "\xff\xfe", string(make([]byte, 5000))} {
		taken("a strange name", tx, ops(1), m)
	}
}

// What the operations ask for is looked at by shards, not here.
func TestP18_1_NewOfAnyOperations(t *testing.T) {
	m, names := thirds(t)
	for _, kind := range numbers() {
		for _, n := range numbers() {
			x, why := txn.New("t", []api.Op{{Kind: kind, Case: names[1][0], N: n}, {Kind: n, Case: names[1][0], Name: "no name"}}, m)
			if why != api.OK || !slices.Equal(x.Groups(), []int{1}) {
				t.Errorf("kind %d, N %d: %d", kind, n, why)
			}
		}
	}
	for _, name := range []string{"", " ", "\x00", "no case", string(make([]byte, 5000))} {
		g, _ := ranges.Owner(m, name)
		if x, why := txn.New("t", []api.Op{{Case: name}}, m); why != api.OK || !slices.Equal(x.Groups(), []int{g}) {
			t.Errorf("case %q: %d", name, why)
		}
	}
}

func TestP18_1_Groups(t *testing.T) {
	for _, c := range []struct{ owners, want []int }{
		{[]int{0}, []int{0}}, {[]int{2}, []int{2}}, {[]int{1, 1, 1, 1}, []int{1}}, {[]int{1, 0}, []int{0, 1}},
		{[]int{2, 0, 2}, []int{0, 2}}, {[]int{2, 1}, []int{1, 2}}, {[]int{2, 1, 0}, []int{0, 1, 2}}, {[]int{0, 1, 2, 0}, []int{0, 1, 2}},
	} {
		x := of(t, c.owners...)
		if got := x.Groups(); !slices.Equal(got, c.want) {
			t.Errorf("Groups of %v: %v", c.owners, got)
		}
		is(t, "a new one", x, open(), c.want...)
	}
}

// The groups are those of Split, whatever the Map: of each Hash the group may be any.
func TestP18_1_GroupsAreThoseOfSplit(t *testing.T) {
	one, _ := ranges.New(1)
	many := one
	for h := range 256 {
		many, _ = ranges.Move(many, h, h+1, h%3)
	}
	two, _ := ranges.New(2)
	for _, m := range []ranges.Map{one, two, many} {
		for k := range 200 {
			var l []api.Op
			for i := range 1 + k%4 {
				l = append(l, api.Op{Kind: api.Read, Case: fmt.Sprint("x", k*7+i)})
			}
			want, _ := ranges.Split(m, l)
			x, why := txn.New("t", l, m)
			if why != api.OK || !slices.Equal(x.Groups(), want) {
				t.Fatalf("%v by %v: %d, not %v", l, m, why, want)
			}
		}
	}
}

func TestP18_Runs(t *testing.T) {
	x := of(t, 0, 1)
	yes(x, 0, "a")
	yes(x, 1, "b")
	is(t, "Vote(0, yes), Vote(1, yes) of two", x, committed("a", "b"), 0, 1)
	x = of(t, 0, 1)
	x.Late()
	yes(x, 0, "a")
	is(t, "Late, Vote(0, yes)", x, aborted(), 0, 1)
}

func TestP18_Examples(t *testing.T) {
	x := of(t, 0, 1)
	yes(x, 0, "a")
	yes(x, 0, "b")
	no(x, 0, 0, api.Bound)
	is(t, "a second vote of one group", x, open(), 0, 1)
	yes(x, 1, "c")
	is(t, "a second vote of one group, and the other's", x, committed("a", "c"), 0, 1)

	x = of(t, 0, 1)
	x.Ack(0)
	is(t, "Ack ahead of the outcome", x, open(), 0, 1)
	x.Late()
	is(t, "Ack ahead of the outcome, and Late", x, aborted(), 0, 1)
}
