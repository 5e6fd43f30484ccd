package shard

import (
	"maps"
	"slices"

	"conclave/api"
	"conclave/locks"
	"conclave/sum"
	"conclave/wire"
)

// formed tells whether c is a command at all, whatever the shard is. Parts that its Kind gives no meaning count for
// nothing.
func formed(c Cmd) bool {
	switch c.Kind {
	case Once:
		return formedOps(c)
	case Prepare:
		return c.Tx != "" && formedOps(c)
	case Commit, Abort:
		return c.Tx != ""
	case Freeze, Take, Leave:
		return inOrder(c.Lo, c.Hi)
	}
	return false
}

func formedOps(c Cmd) bool {
	if len(c.Ops) == 0 || len(c.Ops) > api.MaxOps || len(c.At) != 0 && len(c.At) != len(c.Ops) {
		return false
	}
	for _, o := range c.Ops {
		if o.Kind < api.Create || o.Kind > api.Read {
			return false
		}
	}
	return true
}

// holder answers who a transaction is in the table of locks. That of no name is a Once: it holds what it wants while it
// runs, and no transaction is called so.
func holder(tx string) string { return "t" + tx }

// wants answers what is to be held for ops.
func wants(ops []api.Op) []locks.Want {
	var l []locks.Want
	for _, o := range ops {
		l = append(l, locks.Want{Case: o.Case, Write: o.Kind != api.Read})
	}
	return l
}

// attempt runs ops for tx, apart, while there are fewer than most cases. Beside Yes tx holds what they want, and what
// they leave is told; else it holds nothing.
func (s *Shard) attempt(tx string, ops []api.Op, most int) (Answer, map[string]api.State) {
	for _, o := range ops {
		if s.hashes[sum.Hash(o.Case)] != owned {
			return Answer{Kind: Gone}, nil
		}
	}
	if s.locks.Take(holder(tx), wants(ops)) != api.OK {
		return Answer{Kind: Later}, nil
	}
	d := s.begin(most)
	texts, at, why := d.run(ops)
	if why != api.OK {
		s.locks.Free(holder(tx))
		return Answer{Kind: No, At: at, Why: why}, nil
	}
	return Answer{Kind: Yes, Texts: texts}, d.left
}

// placed answers a with the position of the operation that was refused, where the command says positions.
func placed(a Answer, at []int) Answer {
	if a.Kind == No && len(at) > 0 {
		a.At = at[a.At]
	}
	return a
}

func (s *Shard) once(c Cmd) Answer {
	a, left := s.attempt("", c.Ops, api.MaxCases)
	s.locks.Free(holder(""))
	maps.Copy(s.cases, left)
	return placed(a, c.At)
}

func (s *Shard) prepare(c Cmd) Answer {
	if ops, ok := s.prepared[c.Tx]; ok {
		texts, _, _ := s.begin(unbounded).run(ops)
		return Answer{Kind: Yes, Texts: texts}
	}
	if s.outcomes[c.Tx] != api.Open {
		return Answer{Kind: Done}
	}
	a, _ := s.attempt(c.Tx, c.Ops, api.MaxCases)
	if a.Kind == Yes {
		s.prepared[c.Tx] = slices.Clone(c.Ops)
	}
	return placed(a, c.At)
}

func (s *Shard) commit(tx string) Answer {
	ops, ok := s.prepared[tx]
	if !ok && s.outcomes[tx] != api.Committed {
		return Answer{Kind: None}
	}
	d := s.begin(unbounded)
	d.run(ops)
	maps.Copy(s.cases, d.left)
	s.decide(tx, api.Committed)
	return Answer{Kind: Done}
}

func (s *Shard) abort(tx string) Answer {
	if s.outcomes[tx] == api.Committed {
		return Answer{Kind: None}
	}
	s.decide(tx, api.Aborted)
	return Answer{Kind: Done}
}

// decide lets tx have an outcome, and hold nothing any more.
func (s *Shard) decide(tx string, outcome int) {
	s.locks.Free(holder(tx))
	delete(s.prepared, tx)
	s.outcomes[tx] = outcome
}

func (s *Shard) freeze(lo, hi int) Answer {
	switch {
	case s.held(lo, hi):
		return Answer{Kind: Later}
	case s.among(lo, hi, away) > 0:
		return Answer{Kind: Gone}
	}
	s.turn(lo, hi, frozen)
	w := wire.NewWriter()
	s.writeCases(w, s.within(lo, hi))
	return Answer{Kind: Done, Data: w.Done()}
}

// held tells whether somebody holds a case whose Hash is from lo to, but without, hi.
func (s *Shard) held(lo, hi int) bool {
	for _, who := range s.locks.All() {
		for _, name := range s.locks.Held(who) {
			if between(name, lo, hi) {
				return true
			}
		}
	}
	return false
}

// take brings in cases. None of them is there yet: a shard has no case whose Hash it does not own. Where there are no
// Hashes Data is not asked: whatever it is, nothing turns.
func (s *Shard) take(lo, hi int, data []byte) Answer {
	if lo == hi {
		return Answer{Kind: Done}
	}
	r := wire.NewReader(data)
	all := readCases(r, s.types, func(name string) bool { return between(name, lo, hi) })
	if why, _ := r.End(); why != api.OK || s.among(lo, hi, away) < hi-lo {
		return Answer{Kind: None}
	}
	maps.Copy(s.cases, all)
	s.turn(lo, hi, owned)
	return Answer{Kind: Done}
}

func (s *Shard) leave(lo, hi int) Answer {
	if s.among(lo, hi, frozen) < hi-lo {
		return Answer{Kind: None}
	}
	for _, name := range s.within(lo, hi) {
		delete(s.cases, name)
	}
	s.turn(lo, hi, away)
	return Answer{Kind: Done}
}
