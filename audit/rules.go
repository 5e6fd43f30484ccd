package audit

import (
	"slices"

	"conclave/api"
	"conclave/chain"
	"conclave/shard"
)

// nowhere is what a rule answers that is not broken; it is what slices.IndexFunc answers then.
const nowhere = -1

// kinds is a set of Kinds that Read lets by: a bit for each.
type kinds int

func (s kinds) with(kind int) kinds { return s | 1<<kind }

func (s kinds) has(kind int) bool { return s>>kind&1 == 1 }

// entry is a record, and of which Kinds records of its Tx stand ahead of it in its claim.
type entry struct {
	Rec
	ahead kinds
}

// page is what the bytes of a claim tell: its entries are those ahead of the first record that Read refuses.
type page struct {
	group   int
	links   []chain.Link
	why     api.Errno
	place   int
	entries []entry
	longest int // of the claims of this Group ahead of it the one of most links, or nowhere
}

// told is what all claims together tell of a Tx.
type told struct {
	kinds  kinds
	groups []int // of its first Commit
	apart  bool  // another Commit has other Groups than that
}

// evidence is what the rules are asked of. Each rule answers where in a claim it is broken first, or nowhere.
type evidence struct {
	pages []page
	txs   map[string]told
}

func gather(l []Claim) *evidence {
	e := &evidence{txs: map[string]told{}}
	longest := map[int]int{}
	for k, c := range l {
		p := open(c)
		p.longest = nowhere
		other, ok := longest[p.group]
		if ok {
			p.longest = other
		}
		if !ok || len(p.links) > len(e.pages[other].links) {
			longest[p.group] = k
		}
		e.pages = append(e.pages, p)
		e.hear(p)
	}
	return e
}

func open(c Claim) page {
	p := page{group: c.Group}
	p.links, p.why, p.place = chain.Decode(c.Bytes)
	ahead := map[string]kinds{}
	for _, text := range chain.Texts(p.links) {
		x, why := Read(text)
		if why != api.OK {
			break
		}
		p.entries = append(p.entries, entry{Rec: x, ahead: ahead[x.Tx]})
		ahead[x.Tx] = ahead[x.Tx].with(x.Kind)
	}
	return p
}

func (e *evidence) hear(p page) {
	for _, x := range p.entries {
		t := e.txs[x.Tx]
		if x.Kind == shard.Commit && !t.kinds.has(shard.Commit) {
			t.groups = x.Groups
		} else if x.Kind == shard.Commit && !slices.Equal(t.groups, x.Groups) {
			t.apart = true
		}
		t.kinds = t.kinds.with(x.Kind)
		e.txs[x.Tx] = t
	}
}

// undecoded: rule 1.
func (e *evidence) undecoded(claim int) int {
	if p := e.pages[claim]; p.why != api.OK {
		return p.place
	}
	return nowhere
}

// unread: rule 2.
func (e *evidence) unread(claim int) int {
	if p := e.pages[claim]; len(p.entries) < len(p.links) {
		return len(p.entries)
	}
	return nowhere
}

// unlike: rule 3. The rule has let the claims ahead by: those of the same Group begin the longest of them, so that
// what agrees with that one agrees with all, and what does not is first unlike any of them at the same Link.
func (e *evidence) unlike(claim int) int {
	p := e.pages[claim]
	if p.longest == nowhere {
		return nowhere
	}
	other := e.pages[p.longest]
	if chain.Prefix(p.links, other.links) {
		return nowhere
	}
	at := 0
	for p.links[at] == other.links[at] {
		at++
	}
	return at
}

// settledTwice: rule 4.
func (e *evidence) settledTwice(claim int) int {
	return slices.IndexFunc(e.pages[claim].entries, func(x entry) bool {
		switch x.Kind {
		case shard.Commit:
			return x.ahead.has(shard.Commit) || x.ahead.has(shard.Abort)
		case shard.Abort:
			return x.ahead.has(shard.Commit)
		}
		return false
	})
}

// outcomesApart: rule 5. Behind rule 4 no claim tells both outcomes of a Tx: the other one is another claim's.
func (e *evidence) outcomesApart(claim int) int {
	return slices.IndexFunc(e.pages[claim].entries, func(x entry) bool {
		switch x.Kind {
		case shard.Commit:
			return e.txs[x.Tx].kinds.has(shard.Abort)
		case shard.Abort:
			return e.txs[x.Tx].kinds.has(shard.Commit)
		}
		return false
	})
}

// unprepared: rule 6.
func (e *evidence) unprepared(claim int) int {
	return slices.IndexFunc(e.pages[claim].entries, func(x entry) bool {
		return x.Kind == shard.Commit && !x.ahead.has(shard.Prepare)
	})
}

// groupsApart: rule 7. Behind rule 4 a claim has one Commit of a Tx at most: one with other Groups is another claim's.
func (e *evidence) groupsApart(claim int) int {
	p := e.pages[claim]
	return slices.IndexFunc(p.entries, func(x entry) bool {
		return x.Kind == shard.Commit && (e.txs[x.Tx].apart || !slices.Contains(x.Groups, p.group))
	})
}
