package dedup_test

import (
	"fmt"
	"math/rand"
	"slices"
	"testing"

	"conclave/api"
	"conclave/dedup"
)

// model is a table as the chapter's words tell it: all that was ever Done, in order; what is remembered of it is
// worked out anew.
type model struct {
	most int
	row  []row
}

// clients answers those that were Done latest, no more than most, the one that was Done longest ago first.
func (m *model) clients() []string {
	var all []string
	for _, r := range slices.Backward(m.row) {
		if len(all) < m.most && !slices.Contains(all, r.client) {
			all = append(all, r.client)
		}
	}
	slices.Reverse(all)
	return all
}

func (m *model) ask(client string, id int) (int, string) {
	if !slices.Contains(m.clients(), client) {
		return 1, ""
	}
	for _, r := range slices.Backward(m.row) {
		switch {
		case r.client != client:
		case id > r.id:
			return 1, ""
		case id == r.id:
			return 2, r.reply
		default:
			return 3, ""
		}
	}
	return 0, "nothing is remembered of a client that is"
}

func (m *model) done(client string, id int, reply string) api.Errno {
	if kind, _ := m.ask(client, id); kind != 1 {
		return api.ErrArg
	}
	m.row = append(m.row, row{client, id, reply})
	return api.OK
}

// both does one Done on x and on m, and looks whether they answer alike, then and when they are asked of any of all
// with ids from low to high.
func both(t *testing.T, what string, x *dedup.Table, m *model, r row, all []string, low, high int) {
	t.Helper()
	if got, want := x.Done(r.client, r.id, r.reply), m.done(r.client, r.id, r.reply); got != want {
		t.Fatalf("%s: Done(%s, %d): %d; not %d", what, r.client, r.id, got, want)
	}
	if got, want := x.Clients(), m.clients(); !slices.Equal(got, want) {
		t.Fatalf("%s: Done(%s, %d): Clients: %q; not %q", what, r.client, r.id, got, want)
	}
	for _, client := range all {
		for id := low; id <= high; id++ {
			kind, reply := m.ask(client, id)
			if k, s := x.Ask(client, id); k != kind || s != reply {
				t.Fatalf("%s: Done(%s, %d): Ask(%s, %d): %d, %q; not %d, %q", what, r.client, r.id, client, id, k, s, kind, reply)
			}
		}
	}
}

// All rows of five Dones by four clients with two ids, in tables for one to four clients.
func TestP10_1_EveryRow(t *testing.T) {
	all := []string{"", "a", "b", "c"}
	const length, kinds = 5, 8
	for most := 1; most <= 4; most++ {
		for n := range 1 << (3 * length) {
			x, m := table(t, most), &model{most: most}
			for k, rest := 0, n; k < length; k++ {
				s := rest % kinds
				rest /= kinds
				both(t, fmt.Sprintf("row %d for %d", n, most), x, m, row{all[s>>1], s & 1, fmt.Sprint(k)}, all, -1, 2)
			}
		}
	}
}

// Long rows, in whose midst the table is now and then saved and loaded.
func TestP10_2_LongRows(t *testing.T) {
	r := rand.New(rand.NewSource(9))
	for n := range 120 {
		most := []int{1, 2, 3, 5, 8, 63, 64}[r.Intn(7)]
		all := names(0, 1+r.Intn(2*most+2))
		x, m := table(t, most), &model{most: most}
		for k := range 150 {
			what := fmt.Sprintf("long row %d, step %d", n, k)
			id := k/10 - r.Intn(6)
			one := all[r.Intn(len(all))]
			both(t, what, x, m, row{one, id, fmt.Sprint(k)}, []string{one, all[r.Intn(len(all))]}, id-2, id+2)
			if r.Intn(8) == 0 {
				x = load(t, what, x.Save())
			}
		}
	}
}
