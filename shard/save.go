package shard

import (
	"maps"
	"slices"

	"conclave/api"
	"conclave/wire"
)

// Save answers all that the Shard is but its types: how it stands to each Hash, its cases, the operations of those that
// are prepared, the outcomes. All rows rise, so that of one Shard there is one writing.
func (s *Shard) Save() []byte {
	w := wire.NewWriter()
	for _, how := range s.hashes {
		w.Byte(how)
	}
	s.writeCases(w, s.Cases())
	w.Four(len(s.prepared))
	for _, tx := range s.Prepared() {
		w.Text(tx)
		writeOps(w, s.prepared[tx])
	}
	w.Four(len(s.outcomes))
	for _, tx := range slices.Sorted(maps.Keys(s.outcomes)) {
		w.Text(tx)
		w.Byte(s.outcomes[tx])
	}
	return w.Done()
}

// Load answers the Shard that was saved as b. It takes what commands may lead to and nothing else; no Shard, and so no
// Save, is of types that New refuses.
func Load(types []api.Type, b []byte) (*Shard, api.Errno) {
	s, why := New(types, 0, 0)
	if why != api.OK {
		return nil, api.ErrForm
	}
	r := wire.NewReader(b)
	s.readHashes(r)
	s.cases = readCases(r, s.types, s.Owns)
	s.readPrepared(r)
	s.readOutcomes(r)
	if why, _ := r.End(); why != api.OK || !s.hadRoom() {
		return nil, api.ErrForm
	}
	return s, api.OK
}

func (s *Shard) readHashes(r *wire.Reader) {
	for h := range s.hashes {
		s.hashes[h] = r.Byte()
		if s.hashes[h] > frozen {
			r.Fail(api.ErrForm)
		}
	}
}

// readPrepared lets each transaction try again what it was let do: held cases are as they were when it did.
func (s *Shard) readPrepared(r *wire.Reader) {
	last := ""
	for range r.Count(r.Left()) {
		c := Cmd{Kind: Prepare, Tx: r.Text(r.Left()), Ops: readOps(r)}
		if c.Tx <= last || !formed(c) {
			r.Fail(api.ErrForm)
			return
		}
		if a, _ := s.attempt(c.Tx, c.Ops, unbounded); a.Kind != Yes {
			r.Fail(api.ErrForm)
			return
		}
		s.prepared[c.Tx] = c.Ops
		last = c.Tx
	}
}

func (s *Shard) readOutcomes(r *wire.Reader) {
	last := ""
	for range r.Count(r.Left()) {
		tx, how := r.Text(r.Left()), r.Byte()
		if tx <= last || !s.mayHave(tx, how) {
			r.Fail(api.ErrForm)
			return
		}
		s.outcomes[tx] = how
		last = tx
	}
}

// mayHave tells whether tx may have that outcome. Without types no operation goes well, and nothing is committed.
func (s *Shard) mayHave(tx string, how int) bool {
	if _, open := s.prepared[tx]; open {
		return false
	}
	return how == api.Aborted || how == api.Committed && len(s.types) > 0
}

// hadRoom tells whether those that are prepared may have come in some order in which each found room for the cases that
// it creates. At least those cases were there when one came that it holds, or one ahead of it does; and if any order
// goes well, then the one in which those that create more come first.
func (s *Shard) hadRoom() bool {
	there := map[string]struct{}{}
	for n := api.MaxOps; n > 0; n-- {
		for tx, ops := range s.prepared {
			if creates(ops) == n {
				s.addThere(there, tx)
			}
		}
		if len(there)+n > api.MaxCases {
			return false
		}
	}
	return true
}

// addThere puts in the cases that tx holds and that are there.
func (s *Shard) addThere(there map[string]struct{}, tx string) {
	for _, name := range s.locks.Held(holder(tx)) {
		if _, ok := s.cases[name]; ok {
			there[name] = struct{}{}
		}
	}
}

// creates answers how many cases ops create.
func creates(ops []api.Op) int {
	n := 0
	for _, o := range ops {
		if o.Kind == api.Create {
			n++
		}
	}
	return n
}
