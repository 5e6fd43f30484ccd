package shard

import (
	"math"

	"conclave/api"
	"conclave/cases"
	"conclave/guard"
	"conclave/wire"
)

// How few bytes may be one of a row: who says that there are more of them than there are bytes for is refused before
// room is made for them.
const (
	leastOp = 20 // an operation without texts
	leastAt = 4
)

// EncodeCmd answers c as bytes. A command whose numbers are beyond what is written would come back as another one:
// it has no bytes.
func EncodeCmd(c Cmd) []byte {
	if !writable(c) {
		return nil
	}
	w := wire.NewWriter()
	w.Four(c.Kind)
	w.Text(c.Tx)
	writeOps(w, c.Ops)
	w.Four(len(c.At))
	for _, at := range c.At {
		w.Four(at)
	}
	w.Four(c.Lo)
	w.Four(c.Hi)
	w.Text(string(c.Data))
	return w.Done()
}

// DecodeCmd answers the command that was written as b.
func DecodeCmd(b []byte) (Cmd, api.Errno) {
	r := wire.NewReader(b)
	c := Cmd{Kind: r.Four(), Tx: r.Text(r.Left()), Ops: readOps(r)}
	for range r.Count(r.Left() / leastAt) {
		c.At = append(c.At, r.Four())
	}
	c.Lo, c.Hi = r.Four(), r.Four()
	c.Data = []byte(r.Text(r.Left()))
	if why, _ := r.End(); why != api.OK || !writable(c) {
		return Cmd{}, api.ErrForm
	}
	return c, api.OK
}

// writable tells whether the numbers of c are such as come back from bytes.
func writable(c Cmd) bool {
	if !natural(c.Kind) || !natural(c.Lo) || !natural(c.Hi) {
		return false
	}
	for _, at := range c.At {
		if !natural(at) {
			return false
		}
	}
	for _, o := range c.Ops {
		if !natural(o.Kind) || o.N < math.MinInt32 || o.N > math.MaxInt32 {
			return false
		}
	}
	return true
}

func natural(n int) bool { return 0 <= n && n <= math.MaxInt32 }

func writeOps(w *wire.Writer, ops []api.Op) {
	w.Four(len(ops))
	for _, o := range ops {
		w.Four(o.Kind)
		w.Text(o.Case)
		w.Text(o.Name)
		w.Eight(int64(o.N))
	}
}

func readOps(r *wire.Reader) []api.Op {
	var all []api.Op
	for range r.Count(r.Left() / leastOp) {
		o := api.Op{Kind: r.Four(), Case: r.Text(r.Left()), Name: r.Text(r.Left())}
		o.N = int(r.Eight())
		all = append(all, o)
	}
	return all
}

// writeCases writes the cases of these names, which rise.
func (s *Shard) writeCases(w *wire.Writer, names []string) {
	w.Four(len(names))
	for _, name := range names {
		w.Text(name)
		writeState(w, s.cases[name])
	}
}

// readCases answers what writeCases wrote: cases that are of these types and lie where they may.
func readCases(r *wire.Reader, types []api.Type, lies func(name string) bool) map[string]api.State {
	all, last := map[string]api.State{}, ""
	for range r.Count(r.Left()) {
		name := r.Text(api.MaxName)
		s := readState(r)
		t, known := typeOf(types, s.Type)
		if name <= last || !guard.Name(name) || !lies(name) || !known || !cases.Fits(t, s) {
			r.Fail(api.ErrForm)
			return nil
		}
		all[name] = s
		last = name
	}
	return all
}

// writeState writes how many there are of each, though the type says that too: a state of a type that has the name of
// this one and is another does not look like one of this.
func writeState(w *wire.Writer, s api.State) {
	w.Text(s.Type)
	w.Four(len(s.Vals))
	for _, n := range s.Vals {
		w.Four(n)
	}
	writeTruths(w, s.Done)
	writeTruths(w, s.Got)
}

func readState(r *wire.Reader) api.State {
	s := api.State{Type: r.Text(api.MaxName)}
	for range r.Count(api.MaxItems) {
		s.Vals = append(s.Vals, int(int32(r.Four())))
	}
	s.Done = readTruths(r)
	s.Got = readTruths(r)
	return s
}

func writeTruths(w *wire.Writer, l []bool) {
	w.Four(len(l))
	for _, ok := range l {
		if ok {
			w.Byte(1)
		} else {
			w.Byte(0)
		}
	}
}

// readTruths refuses bytes that are neither of the two: of each truth there is one writing.
func readTruths(r *wire.Reader) []bool {
	var all []bool
	for range r.Count(api.MaxItems) {
		n := r.Byte()
		if n > 1 {
			r.Fail(api.ErrForm)
		}
		all = append(all, n == 1)
	}
	return all
}
