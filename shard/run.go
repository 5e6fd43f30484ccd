package shard

import (
	"math"

	"conclave/api"
	"conclave/cases"
	"conclave/guard"
)

// unbounded is a number of cases that there never are: those who were let by once are not asked again whether there is
// room.
const unbounded = math.MaxInt

// draft is what operations leave, apart from the cases that they began with.
type draft struct {
	types []api.Type
	cases map[string]api.State // as they are: only read
	left  map[string]api.State // those that an operation went over
	made  int                  // how many of these were not there
	most  int                  // with so many cases none is created
}

// begin answers a draft that is as the shard is.
func (s *Shard) begin(most int) *draft {
	return &draft{types: s.types, cases: s.cases, left: map[string]api.State{}, most: most}
}

// run does operations one behind the other, and answers their texts, or which one was refused and why.
func (d *draft) run(ops []api.Op) ([]string, int, api.Errno) {
	var texts []string
	for i, o := range ops {
		text, why := d.step(o)
		if why != api.OK {
			return nil, i, why
		}
		texts = append(texts, text)
	}
	return texts, 0, api.OK
}

// step does one operation on what those ahead of it left.
func (d *draft) step(o api.Op) (string, api.Errno) {
	s, there := d.find(o.Case)
	if o.Kind == api.Create {
		return "", d.create(o, there)
	}
	if !there {
		return "", api.NoCase
	}
	t, _ := typeOf(d.types, s.Type)
	next, text, why := cases.Apply(t, s, o)
	if why != api.OK {
		return "", why
	}
	d.left[o.Case] = next
	return text, api.OK
}

func (d *draft) create(o api.Op, there bool) api.Errno {
	t, known := typeOf(d.types, o.Name)
	switch {
	case there:
		return api.Exists
	case !known:
		return api.Unknown
	case len(d.cases)+d.made >= d.most:
		return api.Bound
	case !guard.Name(o.Case):
		return api.NoName
	}
	d.left[o.Case] = cases.New(t)
	d.made++
	return api.OK
}

// find answers a case as it is left so far.
func (d *draft) find(name string) (api.State, bool) {
	if s, ok := d.left[name]; ok {
		return s, true
	}
	s, ok := d.cases[name]
	return s, ok
}
