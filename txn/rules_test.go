package txn_test

import (
	"slices"
	"testing"

	"conclave/api"
	"conclave/ranges"
	"conclave/txn"
)

// R2: what is handed in is not changed, spare room included, and not kept.
func TestR2_WhatIsHandedIn(t *testing.T) {
	m, names := thirds(t)
	l := []api.Op{{Kind: 1, Case: names[1][0]}, {Kind: 2, Case: names[0][0], N: 3}, {Kind: 9, Case: "spare"}}
	was, parts := slices.Clone(l), slices.Clone(m.Parts)
	x, why := txn.New("t", l[:2], m)
	if why != api.OK || !slices.Equal(l, was) || !slices.Equal(m.Parts, parts) {
		t.Fatalf("New: %d, %v, %v", why, l, m.Parts)
	}
	l[0].Case, l[1].Case = names[2][0], names[2][1]
	m.Parts[0] = ranges.Part{}
	texts := []string{"a", "spare"}
	x.Vote(0, true, texts[:1], 0, api.OK)
	if texts[0] != "a" || texts[1] != "spare" {
		t.Errorf("Vote changes its texts: %q", texts)
	}
	texts[0], texts[1] = "spoilt", "spoilt"
	yes(x, 1, "b")
	is(t, "spoilt", x, committed("b", "a"), 0, 1)

	b := append(x.Save(), 7, 7)
	whole := string(b)
	y, why := txn.Load(b[:len(b)-2])
	if why != api.OK || string(b) != whole {
		t.Fatalf("Load: %d, %x", why, b)
	}
	clear(b)
	if !look(x).same(look(y)) {
		t.Errorf("Load keeps its bytes: %v", look(y))
	}
}

// R2: an answer is new memory, its spare room too.
func TestR2_WhatIsAnswered(t *testing.T) {
	for _, x := range some(t) {
		ahead, bytes := look(x), string(x.Save())
		for range 2 {
			spoil(x.Groups(), 9)
			spoil(x.Left(), 9)
			spoil(x.Reply().Texts, "spoilt")
			spoil(x.Save(), 9)
		}
		if !look(x).same(ahead) || string(x.Save()) != bytes {
			t.Errorf("%v behind spoilt answers, not %v", look(x), ahead)
		}
		one, other := look(x), look(x)
		spoil(one.groups, 9)
		spoil(one.left, 9)
		spoil(one.reply.Texts, "spoilt")
		if !other.same(ahead) {
			t.Errorf("two answers share memory")
		}
		a, b := x.Save(), x.Save()
		if spoil(a, 9); string(b) != bytes {
			t.Errorf("two Saves share memory")
		}
	}
}

// spoil overwrites l and the room behind it.
func spoil[T any](l []T, with T) {
	l = l[:cap(l)]
	for k := range l {
		l[k] = with
	}
}

// What is loaded shares nothing with what it was saved from, nor do two that are loaded.
func TestR2_LoadedApart(t *testing.T) {
	x := of(t, 0, 1)
	yes(x, 0, "a")
	y, z := copied(t, x), copied(t, x)
	x.Late()
	yes(y, 1, "b")
	is(t, "saved", x, aborted(), 0, 1)
	is(t, "loaded", y, committed("a", "b"), 0, 1)
	is(t, "loaded, too", z, open(), 0, 1)
}

// R4: nil and empty lists mean the same.
func TestR4_NilAndEmpty(t *testing.T) {
	for _, texts := range [][]string{nil, {}, make([]string, 0, 5)} {
		x := of(t, 0, 1)
		x.Vote(0, true, texts, 0, api.OK)
		is(t, "yes", x, open(), 0, 1)
		x.Vote(0, false, texts, 0, api.Bound)
		is(t, "no", x, rejected(0, api.Bound), 0, 1)
	}
	for _, b := range [][]byte{nil, {}, make([]byte, 0, 99)} {
		if x, why := txn.Load(b); x != nil || why != api.ErrForm {
			t.Errorf("Load of nothing: %v, %d", x, why)
		}
	}
}

// R4: the same calls, the same bytes.
func TestR4_SameAgain(t *testing.T) {
	for range 20 {
		one, other := some(t), some(t)
		var a, b []string
		for k := range one {
			a, b = append(a, string(one[k].Save())), append(b, string(other[k].Save()))
		}
		if slices.Sort(a); !slices.Equal(a, slices.Sorted(slices.Values(b))) {
			t.Fatalf("the same calls make other bytes")
		}
	}
}

// R5: room behind the length of a list is not read.
func TestR5_SpareRoom(t *testing.T) {
	m, names := thirds(t)
	l := []api.Op{{Case: names[0][0]}, {Case: names[1][0]}}
	x, _ := txn.New("t", l[:1], m)
	if !slices.Equal(x.Groups(), []int{0}) {
		t.Errorf("Groups %v", x.Groups())
	}
	m.Parts = append(m.Parts, ranges.Part{Lo: 3, Hi: 2})[:3]
	if _, why := txn.New("t", l, m); why != api.OK {
		t.Errorf("Parts with room behind them: %d", why)
	}
	x = of(t, 0, 0)
	yes(x, 0, []string{"a", "b", "c"}[:1]...)
	is(t, "one text and room for more", x, open(), 0)
	yes(x, 0, []string{"a", "b", "c"}[:2]...)
	is(t, "two texts and room for one", x, committed("a", "b"), 0)
}
