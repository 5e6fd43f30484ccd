package locks_test

import (
	"fmt"
	"math/rand"
	"slices"
	"testing"

	"conclave/api"
	"conclave/locks"
)

// grant is that a transaction was given a case once.
type grant struct {
	tx   string
	want locks.Want
}

// model is a table as the chapter's words tell it: a row of all that was given and not freed; what is asked of it is
// worked out anew.
type model struct{ row []grant }

func (m *model) take(tx string, l []locks.Want) api.Errno {
	if tx == "" {
		return api.ErrArg
	}
	for _, w := range l {
		for _, g := range m.row {
			if g.tx != tx && g.want.Case == w.Case && (g.want.Write || w.Write) {
				return api.Busy
			}
		}
	}
	for _, w := range l {
		m.row = append(m.row, grant{tx, w})
	}
	return api.OK
}

func (m *model) free(tx string) bool {
	n := len(m.row)
	m.row = slices.DeleteFunc(m.row, func(g grant) bool { return g.tx == tx })
	return len(m.row) < n
}

// some answers what of tells of the grants that it is told of, in order and each once.
func (m *model) some(of func(grant) (string, bool)) []string {
	var all []string
	for _, g := range m.row {
		if s, ok := of(g); ok {
			all = append(all, s)
		}
	}
	slices.Sort(all)
	return slices.Compact(all)
}

func (m *model) holders(name string) []string {
	return m.some(func(g grant) (string, bool) { return g.tx, g.want.Case == name })
}

func (m *model) writers(name string) []string {
	return m.some(func(g grant) (string, bool) { return g.tx, g.want.Case == name && g.want.Write })
}

func (m *model) held(tx string) []string {
	return m.some(func(g grant) (string, bool) { return g.want.Case, g.tx == tx })
}

func (m *model) all() []string {
	return m.some(func(g grant) (string, bool) { return g.tx, true })
}

// step is a Take or a Free.
type step struct {
	tx   string
	free bool
	l    []locks.Want
}

// do does one step on x and on m, and answers what differs.
func do(x *locks.Table, m *model, s step) string {
	if s.free {
		if got, want := x.Free(s.tx), m.free(s.tx); got != want {
			return fmt.Sprintf("Free: %t", got)
		}
		return ""
	}
	if got, want := x.Take(s.tx, s.l), m.take(s.tx, s.l); got != want {
		return fmt.Sprintf("Take: %d; not %d", got, want)
	}
	return ""
}

// same looks whether x answers as m does when it is asked of any of txs and names.
func same(t *testing.T, what string, x *locks.Table, m *model, txs, names []string) {
	t.Helper()
	if got, want := x.All(), m.all(); !slices.Equal(got, want) {
		t.Fatalf("%s: All: %q; not %q", what, got, want)
	}
	for _, tx := range txs {
		if got, want := x.Held(tx), m.held(tx); !slices.Equal(got, want) {
			t.Fatalf("%s: Held(%q): %q; not %q", what, tx, got, want)
		}
	}
	for _, name := range names {
		if got, want := x.Holders(name), m.holders(name); !slices.Equal(got, want) {
			t.Fatalf("%s: Holders(%q): %q; not %q", what, name, got, want)
		}
		who, ok := x.Writer(name)
		if want := append(m.writers(name), ""); who != want[0] || ok != (len(want) > 1) {
			t.Fatalf("%s: Writer(%q): %q, %t; not %q", what, name, who, ok, want[0])
		}
	}
}

// agree looks, without a model, whether a writer is alone and the four lists tell one thing.
func agree(t *testing.T, what string, x *locks.Table, txs, names []string) {
	t.Helper()
	for _, name := range names {
		all := x.Holders(name)
		if who, ok := x.Writer(name); ok && !slices.Equal(all, []string{who}) {
			t.Fatalf("%s: %q has the writer %q and the holders %q", what, name, who, all)
		}
		for _, tx := range txs {
			if a, b := slices.Contains(all, tx), slices.Contains(x.Held(tx), name); a != b {
				t.Fatalf("%s: Holders(%q) has %q: %t, and its Held that case: %t", what, name, tx, a, b)
			}
		}
	}
	for _, tx := range txs {
		if a, b := slices.Contains(x.All(), tx), len(x.Held(tx)) > 0; a != b {
			t.Fatalf("%s: All has %q: %t, and it holds something: %t", what, tx, a, b)
		}
	}
}

// rowOf answers the n-th row of steps of that length.
func rowOf(steps []step, length, n int) []step {
	var row []step
	for range length {
		row = append(row, steps[n%len(steps)])
		n /= len(steps)
	}
	return row
}

// All rows of up to four steps by three transactions over two cases.
func TestP15_3_EveryRow(t *testing.T) {
	txs, names := []string{"a", "b", "c", ""}, []string{"x", "y", ""}
	var steps []step
	for _, tx := range txs[:3] {
		steps = append(steps, step{tx: tx, free: true})
		for _, l := range [][]locks.Want{{read("x")}, {write("x")}, {write("y")}, {read("x"), write("y")}, {read("y"), write("x")}} {
			steps = append(steps, step{tx: tx, l: l})
		}
	}
	for length, rows := 1, len(steps); length <= 4; length, rows = length+1, rows*len(steps) {
		for n := range rows {
			x, m := locks.New(), &model{}
			row := rowOf(steps, length, n)
			for _, s := range row {
				if bad := do(x, m, s); bad != "" {
					t.Fatalf("%v: %s", row, bad)
				}
			}
			what := fmt.Sprint(row)
			same(t, what, x, m, txs, names)
			agree(t, what, x, txs, names)
		}
	}
}

// anyStep answers a step, now and then one that is refused whatever is held.
func anyStep(r *rand.Rand, txs, names []string) step {
	s := step{tx: txs[r.Intn(len(txs))], free: r.Intn(3) == 0}
	if s.free {
		return s
	}
	for range r.Intn(5) {
		s.l = append(s.l, locks.Want{Case: names[r.Intn(len(names))], Write: r.Intn(3) == 0})
	}
	return s
}

// Long rows of several transactions over several cases, some of which have odd names.
func TestP15_3_LongRows(t *testing.T) {
	r := rand.New(rand.NewSource(15))
	for n := range 60 {
		odd := append(oddNames(), "")
		r.Shuffle(len(odd), func(i, j int) { odd[i], odd[j] = odd[j], odd[i] })
		txs, names := odd[:2+r.Intn(6)], odd[10:12+r.Intn(10)]
		x, m := locks.New(), &model{}
		taken, busy := 0, 0
		for k := range 300 {
			s := anyStep(r, txs, names)
			what := fmt.Sprintf("long row %d, step %d, %v", n, k, s)
			ahead := len(m.row)
			if bad := do(x, m, s); bad != "" {
				t.Fatalf("%s: %s", what, bad)
			}
			if len(s.l) > 0 && len(m.row) > ahead {
				taken++
			} else if len(s.l) > 0 {
				busy++
			}
			same(t, what, x, m, odd, odd)
			agree(t, what, x, txs, names)
		}
		if taken < 20 || busy < 20 {
			t.Errorf("long row %d has %d that are taken and %d that are refused", n, taken, busy)
		}
	}
}
