package txn_test

import (
	"fmt"
	"math/rand"
	"slices"
	"testing"

	"conclave/api"
	"conclave/txn"
)

// said is one call.
type said struct {
	kind, group int // kind: 'y', 'n', 'l', 'a'
	texts       []string
	at          int
	why         api.Errno
}

func (s said) do(x *txn.Txn) {
	switch s.kind {
	case 'y':
		x.Vote(s.group, true, s.texts, s.at, s.why)
	case 'n':
		x.Vote(s.group, false, s.texts, s.at, s.why)
	case 'l':
		x.Late()
	case 'a':
		x.Ack(s.group)
	}
}

// foretold answers what the chapter's words say of a row of calls, by looking at the row as a whole: the first votes
// that count, what decides first, and who acks behind that.
func foretold(owners []int, row []said) seen {
	groups := slices.Compact(slices.Sorted(slices.Values(owners)))
	want := seen{groups: groups, left: groups}
	texts := map[int][]string{}
	for k, s := range row {
		member := slices.Contains(groups, s.group)
		_, voted := texts[s.group]
		switch {
		case s.kind == 'l':
			want.reply = aborted()
		case s.kind == 'n' && member && !voted && (s.why == api.Busy || s.why == api.Stale):
			want.reply = aborted()
		case s.kind == 'n' && member && !voted:
			want.reply = rejected(s.at, s.why)
		case s.kind == 'y' && member && !voted && len(s.texts) == len(textsOf(owners, s.group)):
			if texts[s.group] = s.texts; len(texts) == len(groups) {
				want.reply = committed(laid(owners, texts)...)
			}
		}
		if want.outcome = want.reply.Outcome; want.outcome != api.Open {
			want.left = notIn(groups, row[k+1:])
			break
		}
	}
	return want
}

// laid answers the texts of all groups in the order of the operations.
func laid(owners []int, texts map[int][]string) []string {
	var all []string
	next := map[int]int{}
	for _, g := range owners {
		all = append(all, texts[g][next[g]])
		next[g]++
	}
	return all
}

// notIn answers the groups that do not ack in row.
func notIn(groups []int, row []said) []int {
	var all []int
	for _, g := range groups {
		if !slices.ContainsFunc(row, func(s said) bool { return s.kind == 'a' && s.group == g }) {
			all = append(all, g)
		}
	}
	return all
}

func follows(t *testing.T, owners []int, row []said) {
	t.Helper()
	x := of(t, owners...)
	for k, s := range row {
		s.do(x)
		if got, want := look(x), foretold(owners, row[:k+1]); !got.same(want) {
			t.Fatalf("%v: %v: %v, not %v", owners, row[:k+1], got, want)
		}
	}
}

// Every row of five calls, of some that matter.
func TestP18_EveryShortRow(t *testing.T) {
	owners := []int{0, 2, 0}
	calls := []said{
		{kind: 'y', group: 0, texts: []string{"a", "c"}}, {kind: 'y', group: 0, texts: []string{"d"}}, {kind: 'y', group: 2, texts: []string{"b"}},
		{kind: 'n', group: 0, at: 2, why: api.Bound}, {kind: 'n', group: 2, at: 1, why: api.Stale}, {kind: 'l', group: -1}, {kind: 'a', group: 0}, {kind: 'a', group: 2},
		{kind: 'y', group: 1, texts: []string{""}}, {kind: 'n', group: 1, why: api.Bound},
	}
	row := make([]said, 5)
	for n := range 100000 {
		for k := range row {
			row[k] = calls[n%10]
			n /= 10
		}
		follows(t, owners, row)
	}
}

// anyCall answers a call that often counts.
func anyCall(r *rand.Rand, owners []int) said {
	s := said{kind: int("yyyyynaaaal"[r.Intn(11)]), group: owners[r.Intn(len(owners))], at: r.Intn(4), why: api.Errno(30 + r.Intn(9))}
	if r.Intn(5) == 0 {
		s.group = r.Intn(7) - 2
	}
	if s.kind == 'n' && r.Intn(2) == 0 || s.kind == 'l' && r.Intn(3) > 0 {
		s.kind = 'a'
	}
	n := len(textsOf(owners, s.group))
	if r.Intn(6) == 0 {
		n = r.Intn(6)
	}
	for range n {
		s.texts = append(s.texts, fmt.Sprint(r.Intn(1000)))
	}
	return s
}

// Long rows, with a Load of what is saved in the middle of them.
func TestP18_LongRows(t *testing.T) {
	r := rand.New(rand.NewSource(81))
	all := rows()
	met := map[int]int{}
	for range 20000 {
		owners := all[r.Intn(len(all))]
		x := of(t, owners...)
		var row []said
		for range 20 {
			row = append(row, anyCall(r, owners))
			row[len(row)-1].do(x)
			if got, want := look(x), foretold(owners, row); !got.same(want) {
				t.Fatalf("%v: %v: %v, not %v", owners, row, got, want)
			}
			if r.Intn(4) == 0 {
				x = copied(t, x)
			}
		}
		met[x.Outcome()]++
	}
	for _, outcome := range []int{api.Committed, api.Aborted, api.Rejected} {
		if met[outcome] < 1000 {
			t.Errorf("outcome %d was met %d times", outcome, met[outcome])
		}
	}
}
