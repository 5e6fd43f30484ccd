package txn_test

import (
	"math/rand"
	"slices"
	"testing"

	"conclave/api"
	"conclave/txn"
)

// copied answers a Txn from x's bytes, and looks whether it is as x was.
func copied(t *testing.T, x *txn.Txn) *txn.Txn {
	t.Helper()
	b := x.Save()
	y, why := txn.Load(b)
	if y == nil || why != api.OK {
		t.Fatalf("Load of a Save: %d", why)
	}
	if !look(x).same(look(y)) || string(y.Save()) != string(b) || string(x.Save()) != string(b) {
		t.Fatalf("Load of a Save: %v, not %v", look(y), look(x))
	}
	return y
}

// some answers transactions of all outcomes, and on the way to them.
func some(t *testing.T) []*txn.Txn {
	t.Helper()
	var all []*txn.Txn
	keep := func(x *txn.Txn) { all = append(all, copied(t, x)) }
	for _, x := range decided(t) {
		keep(x)
		x.Ack(1)
		keep(x)
		x.Ack(0)
		keep(x)
	}
	x := of(t, 2, 0, 1, 2)
	keep(x)
	yes(x, 2, "", "d")
	keep(x)
	yes(x, 0, "b")
	keep(x)
	yes(x, 1, "c")
	keep(x)
	x = of(t, 1)
	keep(x)
	no(x, 1, -1<<63, 1<<63-1)
	keep(x)
	return all
}

func TestP18_2_SaveAndLoad(t *testing.T) {
	for _, x := range some(t) {
		y := copied(t, x)
		for _, g := range []int{2, 0, 1} {
			for _, z := range []*txn.Txn{x, y} {
				yes(z, g, "x")
				yes(z, g, "x", "y")
				z.Ack(g)
			}
			if !look(x).same(look(y)) || string(x.Save()) != string(y.Save()) {
				t.Errorf("what was loaded goes another way: %v, not %v", look(y), look(x))
			}
		}
	}
}

// Two that no call can tell apart have the same bytes; what can be told later has others.
func TestP18_2_OneWriting(t *testing.T) {
	late, busy := of(t, 0, 1), of(t, 0, 1)
	yes(late, 0, "a")
	late.Late()
	no(busy, 1, 1, api.Busy)
	if string(late.Save()) != string(busy.Save()) {
		t.Errorf("two that are Aborted have two writings")
	}
	if string(of(t, 0, 1).Save()) == string(of(t, 1, 0).Save()) {
		t.Errorf("operations of other groups have one writing")
	}
	one, other := of(t, 0, 1), of(t, 0, 1)
	yes(one, 0, "a")
	yes(other, 0, "b")
	if string(one.Save()) == string(other.Save()) {
		t.Errorf("other texts have one writing")
	}
}

// A vote of another number of texts, an Ack that is none: what is not counted turns no byte.
func TestP18_2_WhatDoesNotCountIsNotSaved(t *testing.T) {
	x := of(t, 0, 1, 1)
	yes(x, 0, "a")
	ahead := string(x.Save())
	yes(x, 0, "b")
	no(x, 0, 1, api.Bound)
	yes(x, 1, "b")
	yes(x, 2, "b")
	no(x, 2, 0, api.Bound)
	no(x, -1, 0, api.Bound)
	x.Ack(0)
	if string(x.Save()) != ahead {
		t.Errorf("what does not count is saved")
	}
}

// sound looks whether y may have come about by calls.
func sound(t *testing.T, y *txn.Txn) {
	t.Helper()
	s := look(y)
	if len(s.groups) == 0 || !slices.IsSorted(s.groups) || len(slices.Compact(slices.Clone(s.groups))) != len(s.groups) || s.groups[0] < 0 || s.groups[len(s.groups)-1] >= api.MaxGroups {
		t.Fatalf("Groups %v", s.groups)
	}
	for _, g := range s.left {
		if !slices.Contains(s.groups, g) {
			t.Fatalf("Left %v of %v", s.left, s.groups)
		}
	}
	switch s.outcome {
	case api.Open:
		soundOpen(t, y)
	case api.Committed:
		if len(s.reply.Texts) < len(s.groups) || len(s.reply.Texts) > api.MaxOps || !sameReply(s.reply, committed(s.reply.Texts...)) {
			t.Fatalf("Committed with %v", s.reply)
		}
	case api.Aborted:
		if !sameReply(s.reply, aborted()) {
			t.Fatalf("Aborted with %v", s.reply)
		}
	case api.Rejected:
		if !sameReply(s.reply, rejected(s.reply.At, s.reply.Why)) || s.reply.Why == api.Busy || s.reply.Why == api.Stale {
			t.Fatalf("Rejected with %v", s.reply)
		}
	default:
		t.Fatalf("outcome %d", s.outcome)
	}
}

// soundOpen looks whether somebody's vote is missing, and whether the votes that are missing lead on.
func soundOpen(t *testing.T, y *txn.Txn) {
	t.Helper()
	s := look(y)
	if !sameReply(s.reply, open()) || !slices.Equal(s.left, s.groups) {
		t.Fatalf("Open with %v, left %v of %v", s.reply, s.left, s.groups)
	}
	against, favour := copied(t, y), copied(t, y)
	for _, g := range s.groups {
		no(against, g, 0, api.Bound)
		for n := range api.MaxOps + 1 {
			yes(favour, g, make([]string, n)...)
		}
	}
	if against.Outcome() != api.Rejected || favour.Outcome() != api.Committed {
		t.Fatalf("Open with nobody's vote missing: %d, %d", against.Outcome(), favour.Outcome())
	}
	sound(t, favour)
}

// tried looks what Load makes of b: what it takes is what Save gives.
func tried(t *testing.T, b []byte) bool {
	t.Helper()
	y, why := txn.Load(b)
	if why != api.OK {
		if y != nil || why != api.ErrForm {
			t.Fatalf("Load of %x: %v, %d", b, y, why)
		}
		return false
	}
	if string(y.Save()) != string(b) {
		t.Fatalf("Load of %x: it is saved as %x", b, y.Save())
	}
	sound(t, y)
	return true
}

func TestP18_2_LoadOfTurnedBytes(t *testing.T) {
	for _, x := range some(t) {
		b := x.Save()
		for k := range b {
			was := b[k]
			for n := range 256 {
				b[k] = byte(n)
				tried(t, b)
			}
			b[k] = was
		}
	}
}

func TestP18_2_LoadOfTwoTurnedBytes(t *testing.T) {
	few := []byte{0, 1, 2, 3, 4, 35, 255}
	for _, x := range some(t) {
		b := x.Save()
		for i := range b {
			for k := range i {
				one, other := b[i], b[k]
				for _, n := range few {
					for _, m := range few {
						b[i], b[k] = n, m
						tried(t, b)
					}
				}
				b[i], b[k] = one, other
			}
		}
	}
}

func TestP18_2_LoadOfMoreAndFewerBytes(t *testing.T) {
	refused := func(b []byte) {
		t.Helper()
		if tried(t, b) {
			t.Errorf("Load takes %x", b)
		}
	}
	refused(nil)
	refused([]byte{})
	for _, x := range some(t) {
		b := x.Save()
		for n := range b {
			refused(b[:n])
			refused(b[n+1:])
			tried(t, slices.Delete(slices.Clone(b), n, n+1))
			tried(t, slices.Insert(slices.Clone(b), n, 0))
			tried(t, slices.Insert(slices.Clone(b), n, 1))
		}
		refused(append(slices.Clone(b), 0))
		refused(append(slices.Clone(b), b...))
	}
}

// One operation more than may be, with all else as it must be then.
func TestP18_2_LoadOfMoreOperations(t *testing.T) {
	for _, x := range some(t) {
		b := x.Save()
		for n := range b {
			for g := range api.MaxGroups {
				more := slices.Insert(slices.Clone(b), n, byte(g))
				for k := range more {
					more[k]++
					tried(t, more)
					more[k]--
				}
			}
		}
	}
}

// reached answers the bytes of all that calls make where no text and no reason is told.
func reached(t *testing.T) map[string]int {
	t.Helper()
	all := map[string]int{}
	var from func(x *txn.Txn, owners []int)
	from = func(x *txn.Txn, owners []int) {
		b := string(x.Save())
		if all[b]++; all[b] > 1 {
			return
		}
		for _, g := range owners {
			for _, s := range []said{
				{kind: 'y', group: g, texts: make([]string, len(textsOf(owners, g)))},
				{kind: 'n', group: g}, {kind: 'n', group: g, why: api.Busy}, {kind: 'l'}, {kind: 'a', group: g},
			} {
				y := copied(t, x)
				s.do(y)
				from(y, owners)
			}
		}
	}
	for _, owners := range rows() {
		from(of(t, owners...), owners)
	}
	return all
}

// bare tells whether x, and what votes without texts make of it, has neither texts nor a reason.
func bare(t *testing.T, x *txn.Txn) bool {
	t.Helper()
	x = copied(t, x)
	for _, g := range x.Groups() {
		for n := range api.MaxOps {
			yes(x, g, make([]string, n+1)...)
		}
	}
	r := x.Reply()
	return !slices.ContainsFunc(r.Texts, func(s string) bool { return s != "" }) && r.At == 0 && r.Why == api.OK
}

// What is loaded of turned bytes has, if it tells nothing else than what calls make, the bytes of one of these.
func TestP18_2_LoadOfWhatCallsMakeAlone(t *testing.T) {
	all := reached(t)
	turn := func(b []byte) {
		t.Helper()
		if y, why := txn.Load(b); why == api.OK && bare(t, y) && all[string(b)] == 0 {
			t.Fatalf("Load takes %x, which no calls make", b)
		}
	}
	for s := range all {
		b := []byte(s)
		for i := range b {
			one := b[i]
			for n := range 5 {
				b[i] = byte(n)
				turn(b)
			}
			for k := range min(i, 12) {
				other := b[k]
				b[i], b[k] = one^1, other^1
				turn(b)
				b[k] = other
			}
			b[i] = one
		}
	}
}

func TestP18_2_LoadOfAnyBytes(t *testing.T) {
	r := rand.New(rand.NewSource(18))
	for range 200000 {
		b := make([]byte, r.Intn(50))
		for k := range b {
			if r.Intn(3) == 0 {
				b[k] = byte(r.Intn(4))
			}
			if r.Intn(30) == 0 {
				b[k] = byte(r.Intn(256))
			}
		}
		tried(t, b)
	}
}
