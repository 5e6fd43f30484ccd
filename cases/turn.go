package cases

import (
	"conclave/api"
	"conclave/guard"
	"conclave/schema"
)

// set, add, fire and settle turn the lists of the state that they are handed: who calls them hands them lists of its own.

// set makes an attribute what o says.
func set(t api.Type, s api.State, o api.Op) api.Errno {
	at := attrOf(t, o.Name)
	if at < 0 {
		return api.NoName
	}
	return put(t, s, at, o.N)
}

// add makes an attribute greater by what o says. How much that may be is asked ahead of the sum, which might wrap round.
func add(t api.Type, s api.State, o api.Op) api.Errno {
	at := attrOf(t, o.Name)
	if at < 0 {
		return api.NoName
	}
	if o.N < -2*api.MaxValue || o.N > 2*api.MaxValue {
		return api.Bound
	}
	return put(t, s, at, s.Vals[at]+o.N)
}

// put makes the attribute at at be n.
func put(t api.Type, s api.State, at, n int) api.Errno {
	if !within(t.Attrs[at], n) {
		return api.Bound
	}
	s.Vals[at] = n
	return api.OK
}

// fire does the stage that o names.
func fire(t api.Type, s api.State, o api.Op) api.Errno {
	for i, r := range t.Stages {
		if r.Name == o.Name && ready(t, s, i) {
			s.Done[i] = true
			return api.OK
		}
	}
	return api.NoStage
}

// ready tells whether the stage at i may be fired.
func ready(t api.Type, s api.State, i int) bool {
	return !s.Done[i] && holds(t, s, t.Stages[i].Guard)
}

// settle gets marks, round for round, until a round gets none. Within a round a mark is seen got by those behind it.
func settle(t api.Type, s api.State) {
	for again := true; again; {
		again = false
		for i, r := range t.Marks {
			if !s.Got[i] && holds(t, s, r.Guard) {
				s.Got[i], again = true, true
			}
		}
	}
}

// holds tells whether a guard of t is anything but 0 in s. What is no guard, which no Right type has, never holds.
func holds(t api.Type, s api.State, text string) bool {
	n, _ := guard.Eval(text, schema.Names(t), seen(s))
	return n != 0
}

// seen answers what guards see of s, in the order of schema.Names.
func seen(s api.State) []int {
	var all []int
	all = append(all, s.Vals...)
	for _, done := range s.Done {
		all = append(all, truth(done))
	}
	for _, got := range s.Got {
		all = append(all, truth(got))
	}
	return all
}

// attrOf answers which attribute has that name, or -1.
func attrOf(t api.Type, name string) int {
	for i, a := range t.Attrs {
		if a.Name == name {
			return i
		}
	}
	return -1
}

func truth(ok bool) int {
	if ok {
		return 1
	}
	return 0
}
