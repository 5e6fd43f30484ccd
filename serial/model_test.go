package serial_test

import (
	"fmt"
	"math/rand"
	"slices"
	"testing"

	"conclave/api"
	"conclave/hist"
	"conclave/serial"
	"conclave/shard"
)

// model is a map as a shard of all Hashes keeps it, while it has room.
type model struct{ s *shard.Shard }

func newModel() model {
	s, _ := shard.New(ours(), 0, 256)
	return model{s}
}

func (m model) copy() model {
	s, _ := shard.Load(ours(), m.s.Save())
	return model{s}
}

func (m model) do(l []api.Op) api.Reply {
	switch a := m.s.Do(shard.Cmd{Kind: shard.Once, Ops: l}); a.Kind {
	case shard.Yes:
		return committed(a.Texts...)
	case shard.No:
		return rejected(a.At, a.Why)
	}
	return rejected(0, api.ErrArg)
}

func known(name string) bool {
	return slices.ContainsFunc(ours(), func(t api.Type) bool { return t.Name == name })
}

// allows is asked of operations whose Kinds are some alone.
func (m model) allows(l []api.Op, r api.Reply) bool {
	if told(m.copy().do(l)) == told(r) {
		return true
	}
	if r.Outcome != api.Rejected || r.At < 0 || r.At >= len(l) {
		return false
	}
	n, o := m.copy(), l[r.At]
	for k := range r.At {
		if l[k].Case == o.Case && n.do(l[k:k+1]).Outcome != api.Committed {
			return false
		}
	}
	if _, there := n.s.Case(o.Case); r.Why == api.Bound && o.Kind == api.Create && !there && known(o.Name) {
		return true
	}
	last := n.do(l[r.At : r.At+1])
	return last.Outcome == api.Rejected && last.Why == r.Why
}

// isOrder answers whether list is an order of l, by the chapter's words.
func isOrder(l []hist.Op, list []int) bool {
	for k, c := range l {
		in := slices.Contains(list, k)
		settled := c.Reply.Outcome == api.Committed || c.Reply.Outcome == api.Rejected
		if c.To >= 0 && in != settled {
			return false
		}
	}
	for i, a := range list {
		for _, b := range list[i+1:] {
			if a == b || hist.Before(l[b], l[a]) {
				return false
			}
		}
	}
	return true
}

// fits answers whether list, an order of l, fits.
func fits(l []hist.Op, list []int) bool {
	m := newModel()
	for _, k := range list {
		c := l[k]
		switch {
		case c.To < 0:
			m.do(c.Ops)
		case !m.allows(c.Ops, c.Reply):
			return false
		case c.Reply.Outcome == api.Committed && told(m.do(c.Ops)) != told(c.Reply):
			return false
		}
	}
	return true
}

// eachList hands over all lists of numbers below n, each number once at most, that begin with list: the least first.
func eachList(n int, list []int, give func(list []int) bool) bool {
	if !give(list) {
		return false
	}
	for k := range n {
		if !slices.Contains(list, k) && !eachList(n, append(slices.Clone(list), k), give) {
			return false
		}
	}
	return true
}

// foretold answers what Order is to answer: the first of all lists.
func foretold(l []hist.Op) ([]int, bool) {
	var found []int
	none := eachList(len(l), nil, func(list []int) bool {
		found = list
		return !isOrder(l, list) || !fits(l, list)
	})
	if none {
		return nil, false
	}
	return found, true
}

// looked holds Order and Check of l against the model, and answers whether there is an order.
func looked(t *testing.T, l []hist.Op) bool {
	t.Helper()
	want, wantOk := foretold(l)
	got, ok, why := serial.Order(ours(), l)
	if ok != wantOk || why != api.OK || !slices.Equal(got, want) {
		t.Fatalf("%+v: %v, %v, %d; not %v, %v", l, got, ok, why, want, wantOk)
	}
	if is, why := serial.Check(ours(), l); is != ok || why != api.OK {
		t.Fatalf("%+v: Check: %v, %d", l, is, why)
	}
	return ok
}

// anOp answers an operation on one of a few cases, of each of which most are of one type.
func anOp(r *rand.Rand) api.Op {
	at := r.Intn(3)
	o := api.Op{Kind: []int{api.Create, api.Set, api.Add, api.Fire, api.Read, api.Read}[r.Intn(6)], Case: []string{"a", "b", "c"}[at], N: r.Intn(12) - 2}
	if r.Intn(8) == 0 {
		o.Case, o.N = []string{"d", "Z", "a"}[r.Intn(3)], r.Intn(130)-20
	}
	switch o.Kind {
	case api.Create:
		o.Name = []string{"loan", "note", "bare"}[at]
	case api.Set, api.Add:
		o.Name = []string{"sum", "n", "none"}[at]
	case api.Fire:
		o.Name = []string{"pay", "shut"}[r.Intn(2)]
	}
	if r.Intn(10) == 0 {
		o.Name = []string{"loan", "note", "sum", "n", "pay", "other"}[r.Intn(6)]
	}
	return o
}

// someOps answers one operation more often than two, and these more often than more.
func someOps(r *rand.Rand) []api.Op {
	var l []api.Op
	for range 1 + r.Intn(1+r.Intn(api.MaxOps)) {
		l = append(l, anOp(r))
	}
	return l
}

// aReply answers a reply that may be one to l of m, or is near to it.
func aReply(r *rand.Rand, m model, l []api.Op) api.Reply {
	x := m.copy().do(l)
	switch r.Intn(5) {
	case 0:
		whys := []api.Errno{api.OK, api.ErrArg, api.NoCase, api.NoName, api.NoStage, api.Exists, api.Bound, api.Unknown}
		return rejected(r.Intn(len(l)+2)-1, whys[r.Intn(len(whys))])
	case 1:
		at := r.Intn(len(l))
		return rejected(at, m.copy().do(l[at:at+1]).Why)
	case 2:
		return rejected(r.Intn(len(l)), api.Bound)
	case 3:
		x.Outcome = r.Intn(5)
	}
	return x
}

// A map does what a shard of all Hashes does, while that one has room.
func TestP22_1_AsAShard(t *testing.T) {
	r := rand.New(rand.NewSource(22))
	done := map[int]int{}
	for range 300 {
		m, s := began(t), newModel()
		for range 60 {
			l := someOps(r)
			if got, want := m.Do(l), s.do(l); told(got) != told(want) {
				t.Fatalf("%v: %s, not %s", l, told(got), told(want))
			} else {
				done[got.Outcome]++
			}
			if !slices.Equal(m.Cases(), s.s.Cases()) {
				t.Fatalf("%v leaves %v, not %v", l, m.Cases(), s.s.Cases())
			}
			for _, name := range append(m.Cases(), "nobody") {
				want := ""
				if _, there := s.s.Case(name); there {
					want = s.do(ops(read(name))).Texts[0]
				}
				if got := m.Text(name); got != want {
					t.Fatalf("%v leaves %s %q, not %q", l, name, got, want)
				}
			}
		}
	}
	if done[api.Committed] < 2000 || done[api.Rejected] < 2000 {
		t.Error(done)
	}
}

func TestP22_2_AllowsAsItIsTold(t *testing.T) {
	r := rand.New(rand.NewSource(222))
	right := 0
	const rows, long = 200, 60
	for range rows {
		m, s := began(t), newModel()
		for range long {
			l := someOps(r)
			x := aReply(r, s, l)
			was, want := whole(m), s.allows(l, x)
			if got := m.Allows(l, x); got != want {
				t.Fatalf("%s\n%v: %s: %v", was, l, told(x), got)
			}
			if whole(m) != was {
				t.Fatalf("Allows of %v turned %s", l, was)
			}
			if want {
				right++
			}
			m.Do(l)
			s.do(l)
		}
	}
	if right < rows*long/5 || right > rows*long*4/5 {
		t.Errorf("%d of %d are allowed", right, rows*long)
	}
}

// Every row of three calls of a few kinds, beside each other and one behind the other.
func TestP22_3_EveryRow(t *testing.T) {
	a, rest := create("a", "loan"), []hist.Op{}
	for _, r := range []api.Reply{made, rejected(0, api.Exists), rejected(0, api.Bound), {Outcome: api.Aborted}} {
		rest = append(rest, call(0, 9, r, a))
	}
	rest = append(rest, waiting(0, a), waiting(0, add("a", "sum", 1)),
		call(0, 9, committed("loan sum=5"), read("a")), call(0, 9, committed("loan sum=6"), read("a")), call(0, 9, rejected(0, api.NoCase), read("a")),
		counted(0, 9, 6), call(0, 9, rejected(1, api.NoCase), create("b", "note"), read("a")))
	spans := [][]int{{0, 9, 0, 9, 0, 9}, {0, 1, 2, 3, 4, 5}, {4, 5, 2, 3, 0, 1}, {0, 1, 2, 4, 3, 5}, {2, 3, 0, 9, 4, 5}, {0, 2, 1, 4, 3, 5}}
	if testing.Short() {
		spans = spans[:2]
	}
	right, n := 0, 0
	for _, x := range rest {
		for _, y := range rest {
			for _, z := range rest {
				for _, s := range spans {
					l := []hist.Op{x, y, z}
					for k := range l {
						l[k].From = s[2*k]
						if l[k].To >= 0 {
							l[k].To = s[2*k+1]
						}
					}
					n++
					if looked(t, l) {
						right++
					}
				}
			}
		}
	}
	if right < n/20 || right > n*19/20 {
		t.Errorf("%d of %d rows have an order", right, n)
	}
}

// history answers calls of a row of events in which each of n was done somewhere between its Called and its Answered.
func history(r *rand.Rand, n int) []hist.Op {
	m := newModel()
	m.do(ops(create("a", "loan")))
	l := []hist.Op{call(-2, 0, made, create("a", "loan"))}
	for k := 1; k < n; k++ {
		c := hist.Op{Ops: someOps(r), From: 10*k - r.Intn(16), To: 10*k + r.Intn(16)}
		if r.Intn(2) == 0 {
			c.Ops = ops(add("a", "sum", 1+r.Intn(2)), read("a"))
		}
		switch x := aReply(r, m, c.Ops); {
		case r.Intn(5) == 0:
			c.To = -1
			m.do(c.Ops)
		case r.Intn(8) == 0:
			c.Reply = api.Reply{Outcome: api.Aborted}
		case x.Outcome == api.Rejected && m.allows(c.Ops, x):
			c.Reply = x
		default:
			c.Reply = m.do(c.Ops)
		}
		l = append(l, c)
	}
	r.Shuffle(len(l), func(i, j int) { l[i], l[j] = l[j], l[i] })
	return l
}

func TestP22_3_SeededHistories(t *testing.T) {
	r := rand.New(rand.NewSource(223))
	rows, right := 400, 0
	if testing.Short() {
		rows = 100
	}
	for range rows {
		l := history(r, 1+r.Intn(5))
		if !looked(t, l) {
			t.Fatalf("%+v: no order", l)
		}
		k := r.Intn(len(l))
		switch r.Intn(4) {
		case 0:
			l[k].Reply = l[r.Intn(len(l))].Reply
		case 1:
			l[k].Reply = aReply(r, newModel(), l[k].Ops)
		case 2:
			l[k].From, l[k].To = l[k].From+r.Intn(40)-20, l[k].To+r.Intn(40)-20
		default:
			l = slices.Delete(l, k, k+1)
		}
		if looked(t, l) {
			right++
		}
	}
	if right < rows/5 || right > rows*4/5 {
		t.Errorf("%d of %d that were spoilt have an order", right, rows)
	}
}

// Seven calls, as they were done, in any row, have an order that fits, by the model's words.
func TestP22_3_SevenCalls(t *testing.T) {
	r := rand.New(rand.NewSource(7))
	for range 300 {
		l := history(r, 7)
		order, ok, why := serial.Order(ours(), l)
		if !ok || why != api.OK || !isOrder(l, order) || !fits(l, order) {
			t.Fatalf("%+v: %v, %v, %d", l, order, ok, why)
		}
		for k := range order { // nothing that it begins with is an order that fits
			if isOrder(l, order[:k]) && fits(l, order[:k]) {
				t.Fatal(fmt.Sprint(l, order, k))
			}
		}
	}
}
