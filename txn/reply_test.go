package txn_test

import (
	"fmt"
	"slices"
	"testing"

	"conclave/api"
)

// The texts stand in the order of the operations, not in that of the groups or of the votes.
func TestP18_2_TextsInOrder(t *testing.T) {
	x := of(t, 2, 0, 1, 0)
	yes(x, 0, "b", "d")
	yes(x, 2, "a")
	yes(x, 1, "c")
	is(t, "four of three groups", x, committed("a", "b", "c", "d"), 0, 1, 2)
	x = of(t, 1, 1, 1, 1)
	yes(x, 1, "a", "", "\x00\xff", string(make([]byte, 9000)))
	is(t, "four of one", x, committed("a", "", "\x00\xff", string(make([]byte, 9000))), 1)
	x = of(t, 2)
	yes(x, 2, "")
	is(t, "one", x, committed(""), 2)
}

func TestP18_2_ReplyWhileOpen(t *testing.T) {
	x := of(t, 0, 1, 2)
	is(t, "new", x, api.Reply{}, 0, 1, 2)
	yes(x, 1, "b")
	is(t, "one yes", x, api.Reply{}, 0, 1, 2)
	yes(x, 0, "a")
	is(t, "two", x, api.Reply{}, 0, 1, 2)
}

// Neither texts of a yes nor the place and the reason of a no are told where they mean nothing.
func TestP18_2_RepliesOfOthers(t *testing.T) {
	x := of(t, 0, 1)
	yes(x, 0, "a")
	no(x, 1, 1, api.Bound)
	is(t, "rejected", x, rejected(1, api.Bound), 0, 1)
	x = of(t, 0, 1)
	yes(x, 0, "a")
	no(x, 1, 1, api.Busy)
	is(t, "aborted", x, aborted(), 0, 1)
}

func TestP18_2_Ack(t *testing.T) {
	for what, x := range decided(t) {
		reply := x.Reply()
		for _, g := range numbers() {
			if g != 0 && g != 1 {
				x.Ack(g)
			}
		}
		is(t, what+": Acks of others", x, reply, 0, 1)
		x.Ack(1)
		is(t, what+": one", x, reply, 0)
		x.Ack(1)
		is(t, what+": twice", x, reply, 0)
		x.Ack(0)
		is(t, what+": all", x, reply)
		x.Ack(0)
		is(t, what+": once more", x, reply)
		if got := x.Groups(); !slices.Equal(got, []int{0, 1}) {
			t.Errorf("%s: Groups %v", what, got)
		}
	}
}

func TestP18_2_AckWhileOpen(t *testing.T) {
	x := of(t, 0, 1)
	ahead := x.Save()
	x.Ack(0)
	x.Ack(1)
	x.Ack(2)
	if is(t, "new", x, open(), 0, 1); string(x.Save()) != string(ahead) {
		t.Errorf("Ack while it is Open turns what is saved")
	}
	yes(x, 0, "a")
	x.Ack(0)
	is(t, "one yes", x, open(), 0, 1)
	yes(x, 1, "b")
	is(t, "decided", x, committed("a", "b"), 0, 1)
}

// Left rises in whatever order they are done.
func TestP18_2_Left(t *testing.T) {
	for _, order := range orders([]int{0, 1, 2}) {
		x := of(t, 2, 0, 1)
		x.Late()
		for k, g := range order {
			left := slices.Sorted(slices.Values(order[k:]))
			is(t, fmt.Sprint(order), x, aborted(), left...)
			x.Ack(g)
		}
		is(t, fmt.Sprint(order), x, aborted())
	}
}
