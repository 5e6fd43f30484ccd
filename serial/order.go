package serial

import (
	"slices"

	"conclave/api"
	"conclave/hist"
)

// mostCalls is how many calls are ordered: of more there are too many orders.
const mostCalls = 7

// How a call stands to orders: it is in none, in some, in all.
const (
	out = iota
	may
	must
)

// trial is the beginning of an order, and the map that was told the calls in it.
type trial struct {
	order []int
	m     *Map
}

// Order answers the least order of l that fits.
func Order(types []api.Type, l []hist.Op) ([]int, bool, api.Errno) {
	if len(l) > mostCalls {
		return nil, false, api.ErrMany
	}
	m, why := New(types)
	if why != api.OK {
		return nil, false, why
	}
	// From its bottom to its top what is on the stack falls, and each is looked at ahead of what it begins: so that the
	// first one that is whole is the least.
	stack := []trial{{m: m}}
	for len(stack) > 0 {
		x := stack[len(stack)-1]
		stack = stack[:len(stack)-1]
		if x.whole(l) {
			return x.order, true, api.OK
		}
		for k := len(l) - 1; k >= 0; k-- {
			if longer, ok := x.tell(l, k); ok {
				stack = append(stack, longer)
			}
		}
	}
	return nil, false, api.OK
}

// Check tells whether an order of l fits.
func Check(types []api.Type, l []hist.Op) (bool, api.Errno) {
	_, ok, why := Order(types, l)
	return ok, why
}

// stands tells which it is of c.
func stands(c hist.Op) int {
	switch {
	case c.To < 0:
		return may
	case c.Reply.Outcome == api.Committed, c.Reply.Outcome == api.Rejected:
		return must
	}
	return out
}

// whole tells whether every call that must be in an order is in x.
func (x trial) whole(l []hist.Op) bool {
	for k, c := range l {
		if stands(c) == must && !slices.Contains(x.order, k) {
			return false
		}
	}
	return true
}

// tell answers x with call k behind it, if that is the beginning of an order and the map is not at odds with it.
func (x trial) tell(l []hist.Op, k int) (trial, bool) {
	if !x.takes(l, k) {
		return trial{}, false
	}
	m, c := x.m, l[k]
	how := stands(c)
	if how == must && !m.Allows(c.Ops, c.Reply) {
		return trial{}, false
	}
	if how == may || c.Reply.Outcome == api.Committed {
		m = m.Copy()
		m.Do(c.Ops)
	}
	return trial{order: append(slices.Clone(x.order), k), m: m}, true
}

// takes tells whether call k may come behind those of x.
func (x trial) takes(l []hist.Op, k int) bool {
	if stands(l[k]) == out {
		return false
	}
	for _, ahead := range x.order {
		if ahead == k || hist.Before(l[k], l[ahead]) {
			return false
		}
	}
	return true
}
