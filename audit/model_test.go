package audit_test

import (
	"cmp"
	"fmt"
	"math/rand"
	"slices"
	"testing"

	"conclave/api"
	"conclave/audit"
	"conclave/chain"
	"conclave/shard"
)

// told is what the model knows of a claim: its links, and its records if all are read.
type told struct {
	group int
	links []chain.Link
	recs  []rec
	whole bool
}

// broadly answers every fault that the chapter's words find in l, each pair of records and of claims looked at.
func broadly(l []audit.Claim) []audit.Fault {
	var all []audit.Fault
	claims := make([]told, len(l))
	for k, c := range l {
		links, why, place := chain.Decode(c.Bytes)
		if why != api.OK {
			all = append(all, broken(1, k, place))
			continue
		}
		claims[k] = told{group: c.Group, links: links, whole: true}
		for at, x := range links {
			r, ok := recOf(x.Text)
			if !ok {
				all = append(all, broken(2, k, at))
				claims[k].whole = false
			}
			claims[k].recs = append(claims[k].recs, r)
		}
	}
	for k, c := range claims {
		if c.whole {
			all = append(all, unlike(claims, k)...)
			for at := range c.recs {
				all = append(all, within(c, k, at)...)
				all = append(all, beside(claims, k, at)...)
			}
		}
	}
	return all
}

// unlike answers the faults of claim k by rule 3.
func unlike(claims []told, k int) []audit.Fault {
	var all []audit.Fault
	for _, other := range claims[:k] {
		if !other.whole || other.group != claims[k].group || chain.Prefix(claims[k].links, other.links) {
			continue
		}
		at := 0
		for claims[k].links[at] == other.links[at] {
			at++
		}
		all = append(all, broken(3, k, at))
	}
	return all
}

// within answers the faults of record at of c, which is claim k, by the rules that ask of one claim alone.
func within(c told, k, at int) []audit.Fault {
	var all []audit.Fault
	r, prepared := c.recs[at], false
	for _, ahead := range c.recs[:at] {
		if ahead.Tx != r.Tx {
			continue
		}
		if r.Kind == shard.Commit && (ahead.Kind == shard.Commit || ahead.Kind == shard.Abort) || r.Kind == shard.Abort && ahead.Kind == shard.Commit {
			all = append(all, broken(4, k, at))
		}
		prepared = prepared || ahead.Kind == shard.Prepare
	}
	if r.Kind == shard.Commit && !prepared {
		all = append(all, broken(6, k, at))
	}
	if r.Kind == shard.Commit && !slices.Contains(r.Groups, c.group) {
		all = append(all, broken(7, k, at))
	}
	return all
}

// beside answers the faults of record at of claim k by the rules that hold it against other claims.
func beside(claims []told, k, at int) []audit.Fault {
	var all []audit.Fault
	r := claims[k].recs[at]
	for j, c := range claims {
		if j == k || !c.whole {
			continue
		}
		for _, x := range c.recs {
			if x.Tx != r.Tx {
				continue
			}
			if r.Kind == shard.Commit && x.Kind == shard.Abort || r.Kind == shard.Abort && x.Kind == shard.Commit {
				all = append(all, broken(5, k, at))
			}
			if r.Kind == shard.Commit && x.Kind == shard.Commit && !slices.Equal(r.Groups, x.Groups) {
				all = append(all, broken(7, k, at))
			}
		}
	}
	return all
}

// least answers what Verify is to answer where these are the faults.
func least(all []audit.Fault) audit.Fault {
	if len(all) == 0 {
		return audit.Fault{}
	}
	return slices.MinFunc(all, func(a, b audit.Fault) int {
		return cmp.Or(cmp.Compare(a.Rule, b.Rule), cmp.Compare(a.Claim, b.Claim), cmp.Compare(a.At, b.At))
	})
}

// outcomesOf answers what Outcomes is to answer.
func outcomesOf(l []audit.Claim, tx string) []int {
	var commits, aborts bool
	for _, c := range l {
		links, _, _ := chain.Decode(c.Bytes)
		for _, x := range links {
			if r, ok := recOf(x.Text); ok && r.Tx == tx {
				commits = commits || r.Kind == shard.Commit
				aborts = aborts || r.Kind == shard.Abort
			}
		}
	}
	switch {
	case commits && aborts:
		return []int{api.Committed, api.Aborted}
	case commits:
		return []int{api.Committed}
	case aborts:
		return []int{api.Aborted}
	}
	return nil
}

// looked holds Verify and Outcomes of l against the model, and answers the rule that is broken.
func looked(t *testing.T, l []audit.Claim) int {
	t.Helper()
	want := least(broadly(l))
	f, ok := audit.Verify(l)
	if f != want || ok != (want == audit.Fault{}) {
		t.Fatalf("%s: %v, %v; not %v", shown(l), f, ok, want)
	}
	for _, tx := range []string{"t", "u", "v", ""} {
		got := audit.Outcomes(l, tx)
		if !slices.Equal(got, outcomesOf(l, tx)) {
			t.Fatalf("%s: Outcomes of %s: %v, not %v", shown(l), tx, got, outcomesOf(l, tx))
		}
		// P20.4
		if ok && len(got) > 1 {
			t.Fatalf("%s: nothing is wrong, and %s has %d outcomes", shown(l), tx, len(got))
		}
	}
	return f.Rule
}

func shown(l []audit.Claim) string {
	s := ""
	for _, c := range l {
		links, why, _ := chain.Decode(c.Bytes)
		s += fmt.Sprintf("group %d (%d):", c.Group, why)
		for _, text := range chain.Texts(links) {
			r, _ := recOf(text)
			s += fmt.Sprint(" ", r)
		}
		s += "; "
	}
	return s
}

// chains answers the bytes of each chain of up to most of these records.
func chains(texts []string, most int) [][]byte {
	rows, all := [][]string{nil}, [][]byte{chain.Encode(nil)}
	for range most {
		var longer [][]string
		for _, row := range rows {
			for _, text := range texts {
				row := append(slices.Clone(row), text)
				longer = append(longer, row)
				all = append(all, chain.Encode(chain.Make(row)))
			}
		}
		rows = longer
	}
	return all
}

func textsOf(l ...rec) []string {
	var all []string
	for _, r := range l {
		all = append(all, audit.Text(r))
	}
	return all
}

func TestP20_2_EveryTwoClaims(t *testing.T) {
	texts := textsOf(prepare("t", 0, 1), commit("t", 0, 1), abort("t", 0), commit("t", 0), prepare("u", 1))
	all := chains(texts, 2)
	if !testing.Short() {
		all = chains(texts, 3)
	}
	seen := [8]int{}
	for _, a := range all {
		for _, b := range all {
			for group := range 2 {
				seen[looked(t, []audit.Claim{{Group: 0, Bytes: a}, {Group: group, Bytes: b}})]++
			}
		}
	}
	met(t, seen, 0, 3, 4, 5, 6, 7)
}

func TestP20_2_EveryThreeClaims(t *testing.T) {
	texts := append(textsOf(prepare("t", 0, 1), commit("t", 0, 1), abort("t", 0, 1)), "rubbish")
	all := append(chains(texts, 2), []byte{0, 0, 0, 1})
	seen := [8]int{}
	for _, a := range all {
		for _, b := range all {
			for _, c := range all {
				for _, groups := range [][3]int{{0, 0, 0}, {0, 0, 1}, {0, 1, 0}, {0, 1, 2}} {
					seen[looked(t, []audit.Claim{{Group: groups[0], Bytes: a}, {Group: groups[1], Bytes: b}, {Group: groups[2], Bytes: c}})]++
				}
			}
		}
	}
	met(t, seen, 0, 1, 2, 3, 4, 5, 6, 7)
}

// met looks whether each of these rules was broken some time; rule 0 is none.
func met(t *testing.T, seen [8]int, rules ...int) {
	t.Helper()
	for _, rule := range rules {
		if seen[rule] == 0 {
			t.Errorf("rule %d is never broken: %v", rule, seen)
		}
	}
}

// world makes rows of claims as replicas of up to three Groups might tell them, and spoils some.
type world struct {
	r      *rand.Rand
	groups [][]string
}

// newWorld lets transactions end in each of their Groups, in orders of their own.
func newWorld(r *rand.Rand) *world {
	w := &world{r: r, groups: make([][]string, 1+r.Intn(3))}
	for _, tx := range []string{"t", "u", "v"} {
		var of []int
		for g := range w.groups {
			if r.Intn(3) > 0 {
				of = append(of, g)
			}
		}
		commits, unknown := r.Intn(3) > 0, r.Intn(12)
		for _, g := range of {
			if commits || r.Intn(2) == 0 {
				w.add(g, prepare(tx, of...))
			}
			if r.Intn(3) == 0 {
				w.add(g, once(tx))
			}
			if commits != (unknown == g) {
				w.add(g, commit(tx, of...))
			} else if r.Intn(4) > 0 {
				w.add(g, abort(tx, of...))
			}
		}
	}
	return w
}

func (w *world) add(group int, r rec) {
	w.groups[group] = append(w.groups[group], audit.Text(r))
}

// claim answers what a replica of some Group tells: all that it did, or less.
func (w *world) claim() audit.Claim {
	g := w.r.Intn(len(w.groups))
	texts := slices.Clone(w.groups[g])
	if w.r.Intn(2) == 0 {
		texts = texts[:w.r.Intn(len(texts)+1)]
	}
	if w.r.Intn(25) == 0 && len(texts) > 1 {
		k := w.r.Intn(len(texts) - 1)
		texts[k], texts[k+1] = texts[k+1], texts[k]
	}
	if w.r.Intn(40) == 0 && len(texts) > 0 {
		texts[w.r.Intn(len(texts))] = "rubbish"
	}
	c := ofTexts(g, texts...)
	switch w.r.Intn(60) {
	case 0:
		c.Bytes = c.Bytes[:w.r.Intn(len(c.Bytes))]
	case 1:
		c = turned(c, w.r.Intn(len(c.Bytes)))
	case 2:
		c.Group = w.r.Intn(5) - 1
	}
	return c
}

func TestP20_2_SeededClaims(t *testing.T) {
	r := rand.New(rand.NewSource(2020))
	seen := [8]int{}
	for range 20000 {
		w := newWorld(r)
		if r.Intn(3) == 0 {
			for range 1 + r.Intn(2) {
				g := r.Intn(len(w.groups))
				w.add(g, []rec{commit("t", g), abort("u", 0), commit("v", 0, 1), prepare("t", 2), once("")}[r.Intn(5)])
			}
		}
		var l []audit.Claim
		for range r.Intn(8) {
			l = append(l, w.claim())
		}
		seen[looked(t, l)]++
	}
	for rule, n := range seen {
		if n < 50 {
			t.Errorf("rule %d is broken %d times: %v", rule, n, seen)
		}
	}
}
