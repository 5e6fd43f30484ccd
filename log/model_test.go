package log_test

import (
	"fmt"
	"math/rand"
	"slices"
	"strings"
	"testing"

	"conclave/api"
	"conclave/log"
)

// model is a log as the chapter's words tell it: of each slot what was learned, and whether it was taken or
// forgotten; everything is worked out anew.
type model struct {
	value            [512]*string
	taken, forgotten [512]bool
}

// least answers the first slot of which is does not hold.
func least(is func(slot int) bool) int {
	for slot := range 512 {
		if !is(slot) {
			return slot
		}
	}
	return 512
}

func (m *model) base() int { return least(func(slot int) bool { return m.forgotten[slot] }) }

func (m *model) next() int {
	return least(func(slot int) bool { return m.forgotten[slot] || m.value[slot] != nil })
}

func (m *model) takenTo() int {
	return least(func(slot int) bool { return m.forgotten[slot] || m.taken[slot] })
}

func (m *model) learn(slot int, v string) api.Errno {
	switch {
	case slot < 0 || slot > 511:
		return api.ErrArg
	case m.forgotten[slot]:
		return api.OK
	case m.value[slot] == nil:
		m.value[slot] = &v
		return api.OK
	case *m.value[slot] == v:
		return api.OK
	}
	return api.Clash
}

func (m *model) take() []string {
	var all []string
	for slot := range m.next() {
		if !m.forgotten[slot] && !m.taken[slot] {
			all = append(all, *m.value[slot])
			m.taken[slot] = true
		}
	}
	return all
}

func (m *model) gaps(below int) []int {
	var all []int
	for slot := range 512 {
		if slot >= m.next() && slot < below && m.value[slot] == nil {
			all = append(all, slot)
		}
	}
	return all
}

func (m *model) compact(n int) api.Errno {
	if n < m.base() || n > m.takenTo() {
		return api.ErrArg
	}
	m.forget(n)
	return api.OK
}

func (m *model) jump(n int) api.Errno {
	if n < 0 || n > 512 {
		return api.ErrArg
	}
	if n > m.takenTo() {
		m.forget(n)
	}
	return api.OK
}

func (m *model) forget(n int) {
	for slot := range n {
		m.forgotten[slot] = true
	}
}

// shown tells the model as shown tells a log.
func (m *model) shown() string {
	var b strings.Builder
	fmt.Fprint(&b, m.base(), " ", m.takenTo(), " ", m.next())
	for slot := range 512 {
		if m.value[slot] != nil && !m.forgotten[slot] {
			fmt.Fprintf(&b, " %d=%s", slot, *m.value[slot])
		}
	}
	return b.String()
}

// both does one call on l and on m, and looks whether they answer alike.
func both(t *testing.T, what string, l *log.Log, m *model, call, n int, v string) {
	t.Helper()
	var got, want string
	switch call {
	case 0:
		what += fmt.Sprintf(": Learn(%d, %s)", n, v)
		got, want = fmt.Sprint(int(l.Learn(n, v))), fmt.Sprint(int(m.learn(n, v)))
	case 1:
		what += ": Take"
		got, want = fmt.Sprintf("%q", l.Take()), fmt.Sprintf("%q", m.take())
	case 2:
		what += fmt.Sprintf(": Compact(%d)", n)
		got, want = fmt.Sprint(int(l.Compact(n))), fmt.Sprint(int(m.compact(n)))
	case 3:
		what += fmt.Sprintf(": Jump(%d)", n)
		got, want = fmt.Sprint(int(l.Jump(n))), fmt.Sprint(int(m.jump(n)))
	case 4:
		what += fmt.Sprintf(": Gaps(%d)", n)
		got, want = fmt.Sprint(l.Gaps(n)), fmt.Sprint(m.gaps(n))
	}
	if got != want {
		t.Fatalf("%s: %s; not %s", what, got, want)
	}
	if got, want := shown(l), m.shown(); got != want {
		t.Fatalf("%s, and then: %.300s; not %.300s", what, got, want)
	}
}

// TestP9_ShortRows does all rows of four steps of a few against the model, at the first slots and at the last.
func TestP9_ShortRows(t *testing.T) {
	type step struct {
		call, n int
		v       string
	}
	steps := []step{{call: 1}}
	for n := range 3 {
		steps = append(steps, step{0, n, "a"})
	}
	steps = append(steps, step{0, 0, "b"}, step{2, 1, ""}, step{2, 2, ""}, step{3, 1, ""}, step{3, 2, ""})
	const length = 4
	rows := 1
	for range length {
		rows *= len(steps)
	}
	for row := range rows {
		for _, first := range []int{0, 510} {
			l, m := log.New(), &model{}
			both(t, "a beginning", l, m, 3, first, "")
			for left, k := row, 0; k < length; left, k = left/len(steps), k+1 {
				s := steps[left%len(steps)]
				both(t, fmt.Sprintf("from %d, row %d, step %d", first, row, k), l, m, s.call, first+s.n, s.v)
			}
		}
	}
}

// TestP9_LongRows does long rows of calls of all kinds, right and wrong, against the model.
func TestP9_LongRows(t *testing.T) {
	for seed := range 200 {
		r := rand.New(rand.NewSource(int64(seed)))
		l, m := log.New(), &model{}
		if seed%4 == 0 {
			both(t, "a beginning", l, m, 3, 480+r.Intn(30), "")
		}
		for k := range 150 {
			n := m.next() + r.Intn(9) - 4
			if r.Intn(6) == 0 {
				n = []int{-1, 0, m.base() - 1, m.base(), m.takenTo(), m.takenTo() + 1, 510, 511, 512, 513}[r.Intn(10)]
			}
			call := []int{0, 0, 0, 0, 0, 0, 1, 1, 2, 3, 4, 4}[r.Intn(12)]
			if call == 3 && n > 500 && r.Intn(4) > 0 {
				n = m.takenTo() + r.Intn(3)
			}
			both(t, fmt.Sprintf("seed %d, step %d", seed, k), l, m, call, n, []string{"", "a", "b"}[r.Intn(3)])
		}
	}
}

// row is a log that is taken from time and again, and what was taken of it, one Take behind the other.
type row struct {
	l   *log.Log
	got []string
}

func (x *row) take() { x.got = append(x.got, x.l.Take()...) }

// inOrder looks whether what was taken is the values of slots from first to below last, each once.
func (x *row) inOrder(t *testing.T, what string, first, last int) {
	t.Helper()
	var want []string
	for slot := first; slot < last; slot++ {
		want = append(want, value(slot))
	}
	if !slices.Equal(x.got, want) {
		t.Fatalf("%s: %.300v; not %.300v", what, x.got, want)
	}
}

// TestP9_3_EveryOrder learns five slots in each order, with a Take behind each of some of them.
func TestP9_3_EveryOrder(t *testing.T) {
	const slots = 5
	var orders [][]int
	var grow func(have []int)
	grow = func(have []int) {
		if len(have) == slots {
			orders = append(orders, slices.Clone(have))
			return
		}
		for slot := range slots {
			if !slices.Contains(have, slot) {
				grow(append(have, slot))
			}
		}
	}
	grow(nil)
	if len(orders) != 120 {
		t.Fatalf("%d orders", len(orders))
	}
	for _, order := range orders {
		for takes := range 1 << slots {
			x := &row{l: log.New()}
			for k, slot := range order {
				answers(t, "Learn", x.l.Learn(slot, value(slot)), api.OK)
				if takes>>k&1 == 1 {
					x.take()
					x.inOrder(t, fmt.Sprint(order, " taken behind ", k), 0, x.l.Next())
				}
			}
			x.take()
			x.inOrder(t, fmt.Sprint(order, " taken at the end"), 0, slots)
		}
	}
}

// TestP9_3_AnyOrder learns many slots several times, with wrong values between, Takes and Compacts.
func TestP9_3_AnyOrder(t *testing.T) {
	for seed := range 100 {
		r := rand.New(rand.NewSource(int64(seed)))
		n := 1 + r.Intn(api.MaxSlots)
		if seed == 0 {
			n = api.MaxSlots
		}
		x := &row{l: log.New()}
		known := map[int]bool{}
		for _, slot := range slices.Concat(r.Perm(n), r.Perm(n), r.Perm(n)) {
			answers(t, "Learn", x.l.Learn(slot, value(slot)), api.OK)
			known[slot] = true
			if other := r.Intn(n); known[other] && other >= x.l.Base() {
				answers(t, "Learn of another value", x.l.Learn(other, "z"), api.Clash)
			}
			if r.Intn(3) == 0 {
				x.take()
			}
			if r.Intn(9) == 0 {
				to := x.l.Base() + r.Intn(x.l.Taken()-x.l.Base()+1)
				answers(t, "Compact", x.l.Compact(to), api.OK)
			}
			if len(x.got) != x.l.Taken() {
				t.Fatalf("seed %d: %d values were taken, and Taken is %d", seed, len(x.got), x.l.Taken())
			}
		}
		x.take()
		x.inOrder(t, fmt.Sprint("seed ", seed), 0, n)
	}
}

// TestP9_3_BehindJumps takes from a log that jumps: what was taken between two Jumps is in order, and nothing comes
// of slots that were left out.
func TestP9_3_BehindJumps(t *testing.T) {
	for seed := range 100 {
		r := rand.New(rand.NewSource(int64(seed)))
		x, first := &row{l: log.New()}, 0
		for k, slot := range append(r.Perm(api.MaxSlots), r.Perm(api.MaxSlots)...) {
			answers(t, "Learn", x.l.Learn(slot, value(slot)), api.OK)
			if r.Intn(3) == 0 {
				x.take()
			}
			if r.Intn(60) == 0 {
				x.inOrder(t, fmt.Sprintf("seed %d, step %d", seed, k), first, x.l.Taken())
				to := x.l.Taken() + r.Intn(30) + 1
				if to <= api.MaxSlots {
					answers(t, "Jump", x.l.Jump(to), api.OK)
					x.got, first = nil, to
				}
			}
		}
		x.take()
		x.inOrder(t, fmt.Sprint("seed ", seed), first, api.MaxSlots)
	}
}
