package audit_test

import (
	"slices"
	"strings"
	"testing"

	"conclave/api"
	"conclave/audit"
	"conclave/shard"
)

// R1: nil and empty lists, and what is none, end every call.
func TestR1_WhateverIsGiven(t *testing.T) {
	huge := strings.Repeat("\xff", 1<<20)
	for _, r := range []rec{{}, {Kind: -1 << 63, Groups: []int{-1 << 63, 1<<63 - 1}}, {Kind: 1<<63 - 1, Tx: huge, Body: huge}, {Groups: make([]int, 100000)}} {
		refused(t, "a Rec that is none", audit.Text(r))
	}
	for _, s := range []string{"", "\xff", huge, strings.Repeat("\x00", 1<<20), strings.Repeat("\x01", 5000)} {
		refused(t, "strange bytes", s)
		l := []audit.Claim{{Group: -1 << 63, Bytes: []byte(s)}, {Group: 1<<63 - 1, Bytes: []byte(s)}}
		if f, ok := audit.Verify(l); ok || f.Rule != 1 || f.Claim != 0 {
			t.Errorf("strange claims: %v, %v", f, ok)
		}
		if got := audit.Outcomes(l, s); len(got) != 0 {
			t.Errorf("Outcomes of strange claims: %v", got)
		}
	}
}

// R2: what is handed in is not changed, spare room included, and not kept.
func TestR2_WhatIsHandedIn(t *testing.T) {
	groups := []int{0, 1, 77}
	r := rec{Kind: shard.Commit, Tx: "t", Groups: groups[:2]}
	s := audit.Text(r)
	if !slices.Equal(groups, []int{0, 1, 77}) {
		t.Errorf("Text changes its Groups: %v", groups)
	}
	p := prepare("t", 0, 1)
	l := []audit.Claim{claim(0, p, r), claim(1, p, r), claim(2)}
	was := slices.Clone(l)
	for k := range l {
		l[k].Bytes = append(slices.Clone(l[k].Bytes), "spare"...)[:len(was[k].Bytes)]
	}
	for range 2 {
		verified(t, "two claims", none(), l[:2]...)
		if got := audit.Outcomes(l[:2], "t"); !slices.Equal(got, []int{api.Committed}) {
			t.Errorf("Outcomes: %v", got)
		}
	}
	for k, c := range l {
		if spare := c.Bytes[:len(was[k].Bytes)+5]; c.Group != was[k].Group || string(spare) != string(was[k].Bytes)+"spare" {
			t.Errorf("claim %d is changed: %v", k, c)
		}
	}
	groups[0], groups[1] = 2, 2
	if got, why := audit.Read(s); why != api.OK || !slices.Equal(got.Groups, []int{0, 1}) {
		t.Errorf("Text keeps its Groups: %v, %d", got, why)
	}
}

// R2: an answer is new memory, its spare room too.
func TestR2_WhatIsAnswered(t *testing.T) {
	s := audit.Text(commit("t", 0, 1, 2))
	one, _ := audit.Read(s)
	other, _ := audit.Read(s)
	spoil(one.Groups, 9)
	again, _ := audit.Read(s)
	l := []audit.Claim{claim(0, commit("t", 0), abort("t", 0))}
	told, more := audit.Outcomes(l, "t"), audit.Outcomes(l, "t")
	spoil(told, 9)
	if !slices.Equal(other.Groups, []int{0, 1, 2}) || !slices.Equal(again.Groups, []int{0, 1, 2}) {
		t.Errorf("two Recs share memory: %v, %v", other, again)
	}
	if !slices.Equal(more, []int{1, 2}) || !slices.Equal(audit.Outcomes(l, "t"), []int{1, 2}) {
		t.Errorf("two lists of Outcomes share memory: %v", more)
	}
}

// spoil overwrites l and the room behind it.
func spoil[T any](l []T, with T) {
	l = l[:cap(l)]
	for k := range l {
		l[k] = with
	}
}

// R4: nil and empty lists mean the same.
func TestR4_NilAndEmpty(t *testing.T) {
	for _, groups := range [][]int{nil, {}, make([]int, 0, 5)} {
		if got := audit.Text(abort("t", groups...)); got != "\x04\x00\x00\x00\x01t\x00\x00\x00\x00\x00" {
			t.Errorf("Text without Groups: %q", got)
		}
	}
	for _, l := range [][]audit.Claim{nil, {}, make([]audit.Claim, 0, 5)} {
		verified(t, "no claims", none(), l...)
		if got := audit.Outcomes(l, "t"); len(got) != 0 {
			t.Errorf("Outcomes of no claims: %v", got)
		}
	}
	for _, b := range [][]byte{nil, {}, make([]byte, 0, 5)} {
		verified(t, "no bytes", broken(1, 1, 0), claim(0), audit.Claim{Bytes: b})
	}
}

// R4: the same is answered again and again.
func TestR4_SameAnswers(t *testing.T) {
	l := []audit.Claim{claim(0, prepare("t", 0), commit("t", 0), prepare("u", 0), commit("u", 0)), claim(1, abort("u", 0), abort("t", 0))}
	for range 200 {
		verified(t, "two transactions apart", broken(5, 0, 1), l...)
	}
}

// R5: room behind the length of a list is not read.
func TestR5_SpareRoom(t *testing.T) {
	if got := audit.Text(rec{Kind: 3, Tx: "t", Groups: []int{0, 1, 2}[:1]}); got != audit.Text(commit("t", 0)) {
		t.Errorf("Text reads behind its Groups: %q", got)
	}
	l := []audit.Claim{claim(0, prepare("t", 0), commit("t", 0)), claim(1, abort("t", 0)), {}}
	verified(t, "faults behind the end", none(), l[:1]...)
	if got := audit.Outcomes(l[:1], "t"); !slices.Equal(got, []int{1}) {
		t.Errorf("Outcomes reads behind the end: %v", got)
	}
	whole := claim(0, once("x"))
	n := len(whole.Bytes)
	verified(t, "bytes with their end in the spare room", broken(1, 0, n-1), audit.Claim{Bytes: whole.Bytes[:n-1]})
	verified(t, "bytes behind the end", none(), audit.Claim{Bytes: append(slices.Clone(whole.Bytes), 1)[:n]})
}
