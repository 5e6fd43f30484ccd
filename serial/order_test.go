package serial_test

import (
	"fmt"
	"math"
	"slices"
	"testing"

	"conclave/api"
	"conclave/hist"
	"conclave/serial"
)

// call answers a call that was called at from and answered at to.
func call(from, to int, r api.Reply, l ...api.Op) hist.Op {
	return hist.Op{Ops: l, Reply: r, From: from, To: to}
}

// waiting answers a call that was called at from and waits.
func waiting(from int, l ...api.Op) hist.Op { return call(from, -1, api.Reply{}, l...) }

// called answers calls beside each other, each a Create of a, answered so.
func called(l ...api.Reply) []hist.Op {
	var all []hist.Op
	for k, r := range l {
		all = append(all, call(k, 100+k, r, create("a", "loan")))
	}
	return all
}

// ordered looks whether that is the least order of l.
func ordered(t *testing.T, what string, want []int, l ...hist.Op) {
	t.Helper()
	got, ok, why := serial.Order(ours(), l)
	if !ok || why != api.OK || !slices.Equal(got, want) {
		t.Errorf("%s: %v, %v, %d; not %v", what, got, ok, why, want)
	}
	if ok, why := serial.Check(ours(), l); !ok || why != api.OK {
		t.Errorf("%s: Check: %v, %d", what, ok, why)
	}
}

// disordered looks whether l has no order.
func disordered(t *testing.T, what string, l ...hist.Op) {
	t.Helper()
	if got, ok, why := serial.Order(ours(), l); ok || why != api.OK || len(got) != 0 {
		t.Errorf("%s: %v, %v, %d", what, got, ok, why)
	}
	if ok, why := serial.Check(ours(), l); ok || why != api.OK {
		t.Errorf("%s: Check: %v, %d", what, ok, why)
	}
}

// counted answers a call that adds one to a and reads n.
func counted(from, to, n int) hist.Op {
	return call(from, to, committed("", fmt.Sprint("loan sum=", n)), add("a", "sum", 1), read("a"))
}

var made = committed("")

// P22.3: calls beside each other come in the order that their answers tell.
func TestP22_3_BesideEachOther(t *testing.T) {
	a := create("a", "loan")
	exists := rejected(0, api.Exists)
	ordered(t, "no calls", nil)
	ordered(t, "one", []int{0}, call(0, 1, made, a))
	disordered(t, "one that is there", call(0, 1, exists, a))
	ordered(t, "two", []int{0, 1}, called(made, exists)...)
	ordered(t, "two, the other way", []int{1, 0}, called(exists, made)...)
	disordered(t, "both are first", called(made, made)...)
	disordered(t, "neither is", called(exists, exists)...)
	ordered(t, "four", []int{2, 0, 1, 3}, called(exists, exists, made, exists)...)
	ordered(t, "three that count", []int{3, 1, 2, 0}, counted(0, 9, 8), counted(1, 9, 6), counted(2, 9, 7), call(3, 9, made, a))
	disordered(t, "a number that is missed", counted(0, 9, 8), counted(1, 9, 6), call(3, 9, made, a))
	disordered(t, "a number twice", counted(0, 9, 6), counted(1, 9, 6), call(3, 9, made, a))
}

// P22.3: who was answered when another one was called comes ahead of it.
func TestP22_3_Before(t *testing.T) {
	a := create("a", "loan")
	exists := rejected(0, api.Exists)
	ordered(t, "in a row", []int{0, 1}, call(0, 1, made, a), call(2, 3, exists, a))
	disordered(t, "in a row, the other way", call(0, 1, exists, a), call(2, 3, made, a))
	ordered(t, "the later one is given first", []int{1, 0}, call(2, 3, exists, a), call(0, 1, made, a))
	disordered(t, "the later one is given first, the other way", call(2, 3, made, a), call(0, 1, exists, a))
	ordered(t, "called when it was answered", []int{1, 0}, call(0, 2, exists, a), call(2, 3, made, a))
	disordered(t, "called behind it", call(0, 2, exists, a), call(3, 4, made, a))
	ordered(t, "what does not touch it", []int{2, 0, 1}, call(4, 5, made, create("b", "note")), call(6, 7, made, create("c", "note")), call(0, 3, made, a))
	ordered(t, "a row of three", []int{2, 1, 0}, counted(6, 7, 7), counted(4, 5, 6), call(0, 3, made, a))
	disordered(t, "first and third turned", counted(6, 7, 6), call(4, 5, made, create("b", "note")), counted(2, 3, 7), call(0, 1, made, a))
	disordered(t, "who has neither order", call(5, 0, made, create("b", "note")), call(4, 1, made, create("c", "note"))) // each is before the other
}

// P22.3: what was answered otherwise is in no order.
func TestP22_3_AnsweredOtherwise(t *testing.T) {
	a := create("a", "loan")
	for _, outcome := range []int{api.Open, api.Aborted, 4, -1, math.MinInt, math.MaxInt} {
		r := api.Reply{Outcome: outcome}
		what := fmt.Sprint("outcome ", outcome)
		ordered(t, what, nil, call(0, 1, r, a))
		ordered(t, what, []int{1}, call(0, 3, r, a), call(1, 2, made, a))
		ordered(t, what, []int{0}, call(1, 2, made, a), call(0, 3, r, a))
		disordered(t, what, call(0, 3, r, a), call(1, 2, rejected(0, api.Exists), a))
		r.Texts = []string{""}
		ordered(t, what, nil, call(0, 1, r, a))
		ordered(t, what, nil, call(5, 0, r, a), call(4, 1, r, a), call(3, 2, r, a))
	}
}

// P22.3: those that wait may be, or not; they turn what Do turns, whatever it answers.
func TestP22_3_Waiting(t *testing.T) {
	a := create("a", "loan")
	exists := rejected(0, api.Exists)
	ordered(t, "nobody needs it", nil, waiting(0, a))
	ordered(t, "nobody needs seven", nil, slices.Repeat([]hist.Op{waiting(0, a)}, 7)...)
	ordered(t, "without it", []int{1}, waiting(0, create("b", "note")), call(1, 2, rejected(0, api.NoCase), read("b")))
	ordered(t, "it may be and is no hindrance", []int{0, 1}, waiting(0, create("b", "note")), call(1, 2, made, a))
	ordered(t, "behind all that must be", []int{0}, call(1, 2, made, a), waiting(0, create("b", "note")))
	ordered(t, "one needs it", []int{0, 1}, waiting(0, a), call(1, 2, exists, a))
	ordered(t, "one needs it that is given first", []int{1, 0}, call(1, 2, exists, a), waiting(0, a))
	ordered(t, "what is refused may be there too", []int{0, 1}, waiting(0, read("nobody")), call(1, 2, made, a))
	ordered(t, "what is not formed may be there too", []int{0, 1}, waiting(0), call(1, 2, made, a))
	ordered(t, "one waits behind the other", []int{1, 0, 2}, waiting(0, add("a", "sum", 1)), waiting(1, a), call(2, 3, committed("loan sum=6"), read("a")))
	ordered(t, "a hindrance", []int{1}, waiting(0, a), call(1, 2, made, a))
	ordered(t, "a hindrance that is needed, behind another one", []int{1, 0, 2}, waiting(0, add("a", "sum", 1)), call(1, 2, committed("", "loan sum=5"), a, read("a")), call(3, 4, committed("loan sum=6"), read("a")))
	disordered(t, "called when it was answered", call(0, 1, exists, a), waiting(2, a))
	ordered(t, "called ahead of its answer", []int{1, 0}, call(0, 2, exists, a), waiting(1, a))
	disordered(t, "needed once more than it is", waiting(0, add("a", "sum", 1)), call(1, 2, made, a), call(3, 4, committed("loan sum=7"), read("a")))
	// it waits, though a reply stands beside it
	ordered(t, "a reply of one that waits", nil, call(0, -1, exists, a))
	ordered(t, "a reply of one that waits, of another number", nil, call(0, math.MinInt, committed("no text"), a))
	ordered(t, "it turns what Do turns", []int{0, 1}, call(0, -1, exists, a), call(1, 2, exists, a))
	ordered(t, "even if it was Aborted", []int{0, 1}, call(0, -1, api.Reply{Outcome: api.Aborted}, a), call(1, 2, exists, a))
}

// P22.3: a Rejected one turns nothing, also where Do would.
func TestP22_3_RejectedTurnsNothing(t *testing.T) {
	a := create("a", "loan")
	full := rejected(0, api.Bound)
	ordered(t, "full", []int{0}, call(0, 1, full, a))
	ordered(t, "full, then not", []int{0, 1}, call(0, 1, full, a), call(2, 3, made, a))
	disordered(t, "there, then full", call(0, 1, made, a), call(2, 3, full, a))
	disordered(t, "full, then there", call(0, 1, full, a), call(2, 3, rejected(0, api.Exists), a))
	ordered(t, "full again and again", []int{0, 1, 2, 3}, called(full, full, full, made)...)
	ordered(t, "full at the second", []int{0, 1}, call(0, 1, rejected(1, api.Bound), create("b", "note"), a), call(2, 3, rejected(0, api.NoCase), read("b")))
	ordered(t, "the second of two is told", []int{0, 1}, call(0, 1, rejected(1, api.NoCase), read("x"), read("y")), call(2, 3, made, create("x", "note")))
}

// P22.3: the least, number for number; a beginning ahead of what it begins.
func TestP22_3_Least(t *testing.T) {
	b := waiting(9, create("b", "note"))
	read1 := call(0, 9, committed("loan sum=5"), read("a"))
	a := call(0, 9, made, create("a", "loan"))
	ordered(t, "seven in a row", []int{0, 1, 2, 3, 4, 5, 6}, a, read1, read1, read1, read1, read1, read1)
	ordered(t, "the maker is last", []int{6, 0, 1, 2, 3, 4, 5}, read1, read1, read1, read1, read1, read1, a)
	ordered(t, "the maker is in the middle", []int{3, 0, 1, 2, 4, 5, 6}, read1, read1, read1, a, read1, read1, read1)
	ordered(t, "those that wait ahead of what must be", []int{0, 1, 2}, waiting(0), waiting(1), a)
	ordered(t, "those that wait behind what must be", []int{0}, a, waiting(0), waiting(1))
	ordered(t, "a lesser one that waits, but not yet, comes between", []int{1, 0, 2}, waiting(10, read("a")), a, call(5, 11, committed("loan sum=5"), read("a")), waiting(1, read("a")))
	ordered(t, "no longer than it must be", []int{0, 1, 2, 3, 4}, waiting(0), waiting(1), a, waiting(3), read1, b, b)
	ordered(t, "one that waits is there where it turns nothing", []int{1, 2, 0}, read1, waiting(0, add("a", "sum", 1)), a)
	ordered(t, "shorter, though a lesser one could be behind it", []int{2, 1}, waiting(10, read("a")), read1, a)
	ordered(t, "longer, though a shorter one is greater", []int{0, 1, 2}, b, waiting(0, read("a")), a)
}

// P22.3: seven are ordered, eight are too many, whatever they are and whatever the types are.
func TestP22_3_TooMany(t *testing.T) {
	wrong := make([]api.Type, 1)
	for n := range 12 {
		for _, c := range []hist.Op{{}, waiting(0), call(0, 1, made, create("a", "loan")), call(0, 1, api.Reply{Outcome: api.Aborted})} {
			l := slices.Repeat([]hist.Op{c}, n)
			for _, types := range [][]api.Type{ours(), wrong} {
				want := api.OK
				switch {
				case n > 7:
					want = api.ErrMany
				case len(types) == 1:
					want = api.ErrArg
				}
				got, ok, why := serial.Order(types, l)
				if why != want || why != api.OK && (ok || len(got) != 0) {
					t.Errorf("%d of %v: %v, %v, %d, not %d", n, c, got, ok, why, want)
				}
				if is, same := serial.Check(types, l); is != ok || same != want {
					t.Errorf("%d of %v: Check: %v, %d", n, c, is, same)
				}
			}
		}
	}
	if _, _, why := serial.Order(ours(), make([]hist.Op, 1<<20)); why != api.ErrMany {
		t.Error(why)
	}
}

// P22.3: all that can be tried of seven calls, and none fits.
func TestP22_3_NoneOfAll(t *testing.T) {
	never := call(0, 9, committed("nobody says so"), read("a"))
	l := []hist.Op{never}
	for k := range 6 {
		l = append(l, waiting(k, create(nameOf(k), "note"), add("a", "sum", 1), read("a")))
	}
	disordered(t, "six that wait and are refused", l...)
	for k := range 6 {
		l[k+1] = waiting(k, create(nameOf(k), "note"), set(nameOf(k), "n", k))
	}
	disordered(t, "six that wait and are done", l...)
	slices.Reverse(l)
	disordered(t, "the other way", l...)
}
