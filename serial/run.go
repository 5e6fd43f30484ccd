package serial

import (
	"conclave/api"
	"conclave/cases"
	"conclave/guard"
	"conclave/hist"
)

// formed tells whether l may be run at all, whatever the map is.
func formed(l []api.Op) bool {
	if len(l) == 0 || len(l) > api.MaxOps {
		return false
	}
	for _, o := range l {
		if o.Kind < api.Create || o.Kind > api.Read {
			return false
		}
	}
	return true
}

// draft is what operations leave, apart from the map that they began with.
type draft struct {
	m    *Map                 // only read
	left map[string]api.State // those that an operation went over
}

func (m *Map) begin() *draft { return &draft{m: m, left: map[string]api.State{}} }

// answer answers what Do is to answer, and what cases are left beside Committed; m is not turned yet.
func (m *Map) answer(l []api.Op) (api.Reply, map[string]api.State) {
	if !formed(l) {
		return api.Reply{Outcome: api.Rejected, Why: api.ErrArg}, nil
	}
	d := m.begin()
	var texts []string
	for at, o := range l {
		text, why := d.step(o)
		if why != api.OK {
			return api.Reply{Outcome: api.Rejected, At: at, Why: why}, nil
		}
		texts = append(texts, text)
	}
	return api.Reply{Outcome: api.Committed, Texts: texts}, d.left
}

// answers tells whether Do would answer r.
func (m *Map) answers(l []api.Op, r api.Reply) bool {
	would, _ := m.answer(l)
	return hist.Same(would, r)
}

// refuses tells whether the operation of l at at may be refused so behind those ahead of it on its case, none of which
// is. How many cases there are is nothing that a map knows of a shard: a Create may always be one too many.
func (m *Map) refuses(l []api.Op, at int, why api.Errno) bool {
	if at < 0 || at >= len(l) || why == api.OK {
		return false
	}
	d, o := m.begin(), l[at]
	for _, ahead := range l[:at] {
		if ahead.Case != o.Case {
			continue
		}
		if _, refused := d.step(ahead); refused != api.OK {
			return false
		}
	}
	if why == api.Bound && d.creates(o) {
		return true
	}
	_, refused := d.step(o)
	return refused == why
}

// creates tells whether o is a Create that lacks neither its type nor that its case is not there.
func (d *draft) creates(o api.Op) bool {
	_, there := d.find(o.Case)
	_, known := d.m.typeOf(o.Name)
	return o.Kind == api.Create && !there && known
}

// step does one operation on what those ahead of it left.
func (d *draft) step(o api.Op) (string, api.Errno) {
	s, there := d.find(o.Case)
	switch {
	case o.Kind == api.Create:
		return "", d.create(o, there)
	case !there:
		return "", api.NoCase
	}
	t, _ := d.m.typeOf(s.Type)
	next, text, why := cases.Apply(t, s, o)
	if why != api.OK {
		return "", why
	}
	d.left[o.Case] = next
	return text, api.OK
}

func (d *draft) create(o api.Op, there bool) api.Errno {
	t, known := d.m.typeOf(o.Name)
	switch {
	case there:
		return api.Exists
	case !known:
		return api.Unknown
	case !guard.Name(o.Case):
		return api.NoName
	}
	d.left[o.Case] = cases.New(t)
	return api.OK
}

// find answers a case as it is left so far.
func (d *draft) find(name string) (api.State, bool) {
	if s, ok := d.left[name]; ok {
		return s, true
	}
	s, ok := d.m.cases[name]
	return s, ok
}
