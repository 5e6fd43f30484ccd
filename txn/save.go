package txn

import (
	"conclave/api"
	"conclave/wire"
)

// Save answers all that the transaction is. Texts are there of those who voted alone: of one transaction there is one
// writing.
func (t *Txn) Save() []byte {
	w := wire.NewWriter()
	w.Byte(t.outcome)
	w.Four(len(t.owners))
	for _, g := range t.owners {
		w.Byte(g)
	}
	writeGroups(w, t.voted)
	writeGroups(w, t.done)
	for k, g := range t.owners {
		if t.voted[g] {
			w.Text(t.texts[k])
		}
	}
	w.Eight(int64(t.at))
	w.Eight(int64(t.why))
	return w.Done()
}

// Load answers the transaction that was saved as b.
func Load(b []byte) (*Txn, api.Errno) {
	r := wire.NewReader(b)
	t := &Txn{outcome: r.Byte(), owners: readOwners(r)}
	t.voted = readGroups(r)
	t.done = readGroups(r)
	t.texts = make([]string, len(t.owners))
	for k, g := range t.owners {
		if t.voted[g] {
			t.texts[k] = r.Text(r.Left())
		}
	}
	t.at = int(r.Eight())
	t.why = api.Errno(r.Eight())
	if why, _ := r.End(); why != api.OK || !t.mayBe() {
		return nil, api.ErrForm
	}
	return t, api.OK
}

// mayBe tells whether calls lead to t.
func (t *Txn) mayBe() bool {
	all := t.members()
	if len(t.owners) == 0 || len(t.voted.but(all)) > 0 || len(t.done.but(all)) > 0 {
		return false
	}
	reason := t.at != 0 || t.why != api.OK
	switch t.outcome {
	case api.Open:
		return t.voted != all && t.done == groups{} && !reason
	case api.Committed:
		return t.voted == all && !reason
	case api.Aborted:
		return t.voted == groups{} && !reason
	case api.Rejected:
		return t.voted == groups{} && !passes(t.why)
	}
	return false
}

// readOwners answers whose the operations are. Any row of groups may be: there are Maps for each.
func readOwners(r *wire.Reader) []int {
	var all []int
	for range r.Count(api.MaxOps) {
		g := r.Byte()
		if g >= api.MaxGroups {
			r.Fail(api.ErrForm)
			return nil
		}
		all = append(all, g)
	}
	return all
}

func writeGroups(w *wire.Writer, s groups) {
	for _, ok := range s {
		if ok {
			w.Byte(1)
		} else {
			w.Byte(0)
		}
	}
}

// readGroups refuses bytes that are neither of the two: of each groups there is one writing.
func readGroups(r *wire.Reader) groups {
	var s groups
	for g := range s {
		n := r.Byte()
		if n > 1 {
			r.Fail(api.ErrForm)
		}
		s[g] = n == 1
	}
	return s
}
