package chain_test

import (
	"bytes"
	"slices"
	"strings"
	"testing"

	"conclave/api"
	"conclave/chain"
)

// R1: nil and empty lists, and what is no chain, end every call.
func TestR1_WhateverIsGiven(t *testing.T) {
	strange := [][]chain.Link{
		nil, {}, {{}}, {{}, {}}, make([]chain.Link, 5000), {{Text: "\xff\x00"}},
		{{Text: strings.Repeat("x", 1<<20), Head: [32]byte{1}}},
	}
	for _, a := range strange {
		if n := chain.Check(a); n != 0 {
			t.Errorf("Check of %d Links, of which the first is wrong: %d", len(a), n)
		}
		if len(chain.Texts(a)) != len(a) || len(chain.Make(chain.Texts(a))) != len(a) {
			t.Errorf("Texts of %d", len(a))
		}
		for _, b := range strange {
			both(t, a, b)
		}
		tried(t, "strange Links", chain.Encode(a))
	}
}

// R2: what is handed in is not changed, spare room included, and not kept.
func TestR2_WhatIsHandedIn(t *testing.T) {
	texts := []string{"a", "b", "spare", "spare"}
	l := chain.Make(texts[:2])
	if !slices.Equal(texts, []string{"a", "b", "spare", "spare"}) {
		t.Errorf("Make changes its texts: %q", texts)
	}
	texts[0], texts[1] = "spoilt", "spoilt"
	if !slices.Equal(l, linked("a", "b")) {
		t.Errorf("Make keeps its texts: %v", l)
	}

	l = append(linked("a", "b"), chain.Link{Text: "spare"})
	other := append(linked("a", "b", "c"), chain.Link{Text: "spare"})
	was, otherWas := slices.Clone(l), slices.Clone(other)
	chain.Check(l[:2])
	chain.Prefix(l[:2], other[:3])
	chain.Prefix(l[:2], other[:1])
	b, all := chain.Encode(l[:2]), chain.Texts(l[:2])
	if !slices.Equal(l, was) || !slices.Equal(other, otherWas) {
		t.Errorf("Links are changed: %v, %v", l, other)
	}
	clear(l)
	if !bytes.Equal(b, bytesOf(2, linked("a", "b"))) || !slices.Equal(all, []string{"a", "b"}) {
		t.Errorf("Links are kept: %x, %q", b, all)
	}

	whole := append(slices.Clone(b), "spare"...)
	got, why, _ := chain.Decode(whole[:len(b)])
	if why != api.OK || string(whole) != string(b)+"spare" {
		t.Fatalf("Decode changes its bytes: %d, %x", why, whole)
	}
	clear(whole)
	if !slices.Equal(got, linked("a", "b")) {
		t.Errorf("Decode keeps its bytes: %v", got)
	}
}

func TestR2_NextLeavesTheHead(t *testing.T) {
	room := make([]byte, 200)
	heads := [2][32]byte{headOf([32]byte{}, "a"), headOf([32]byte{}, "b")}
	was := heads
	if chain.Next(heads[0], string(room)) != headOf(was[0], string(room)) || heads != was {
		t.Error("Next writes to what it is handed, or beside it")
	}
}

// R2: an answer is new memory, its spare room too.
func TestR2_WhatIsAnswered(t *testing.T) {
	texts := []string{"a", "bb", "ccc"}
	l := linked(texts...)
	bytesAhead := string(chain.Encode(l))
	for range 2 {
		spoil(chain.Make(texts), chain.Link{Text: "spoilt"})
		spoil(chain.Texts(l), "spoilt")
		spoil(chain.Encode(l), 9)
		got, _, _ := chain.Decode([]byte(bytesAhead))
		spoil(got, chain.Link{Text: "spoilt"})
	}
	if !slices.Equal(chain.Make(texts), l) || !slices.Equal(chain.Texts(l), texts) || string(chain.Encode(l)) != bytesAhead {
		t.Error("other answers behind spoilt ones")
	}
	one, other := chain.Make(texts), chain.Make(texts)
	spoil(one, chain.Link{})
	firstTexts, moreTexts := chain.Texts(l), chain.Texts(l)
	spoil(firstTexts, "")
	firstBytes, moreBytes := chain.Encode(l), chain.Encode(l)
	spoil(firstBytes, 0)
	firstRead, _, _ := chain.Decode(moreBytes)
	moreRead, _, _ := chain.Decode(moreBytes)
	spoil(firstRead, chain.Link{})
	if !slices.Equal(other, l) || !slices.Equal(moreTexts, texts) || string(moreBytes) != bytesAhead || !slices.Equal(moreRead, l) {
		t.Error("two answers share memory")
	}
}

// spoil overwrites l and the room behind it.
func spoil[T any](l []T, with T) {
	l = l[:cap(l)]
	for k := range l {
		l[k] = with
	}
}

// R3: beside a refusal nothing is told but it and its place; beside none, no place.
func TestR3_RefusedIsEmpty(t *testing.T) {
	wrong := linked("a", "b")
	wrong[1].Head[0] ^= 1
	b := chain.Encode(linked("a", "b"))
	for _, x := range [][]byte{nil, b[:3], b[:50], append(slices.Clone(b), 0), chain.Encode(wrong), []byte("\xff\xff\xff\xff")} {
		if l, why, _ := chain.Decode(x); len(l) != 0 || why == api.OK {
			t.Errorf("Decode of %x: %v, %d", x, l, why)
		}
	}
	if _, why, at := chain.Decode(b); why != api.OK || at != 0 {
		t.Errorf("Decode of a chain: %d at %d", why, at)
	}
}

// R4: nil and empty lists mean the same.
func TestR4_NilAndEmpty(t *testing.T) {
	for _, texts := range [][]string{nil, {}, make([]string, 0, 5)} {
		if got := chain.Make(texts); len(got) != 0 {
			t.Errorf("Make of nothing: %v", got)
		}
	}
	a := linked("a")
	for _, l := range [][]chain.Link{nil, {}, make([]chain.Link, 0, 5)} {
		if chain.Check(l) != 0 || len(chain.Texts(l)) != 0 || string(chain.Encode(l)) != "\x00\x00\x00\x00" || !both(t, l, a) || !both(t, l, nil) {
			t.Errorf("nothing: %d, %q, %x", chain.Check(l), chain.Texts(l), chain.Encode(l))
		}
	}
	if l, why, at := chain.Decode(chain.Encode(nil)); len(l) != 0 || why != api.OK || at != 0 {
		t.Errorf("Decode of no links: %v, %d at %d", l, why, at)
	}
}

// R5: room behind the length of a list is not read.
func TestR5_SpareRoom(t *testing.T) {
	l := linked("a", "b", "c", "d")
	l[2].Head[0] ^= 1
	if got := chain.Check(l[:2]); got != 2 {
		t.Errorf("Check reads behind the end: %d", got)
	}
	if got := chain.Texts(l[:2]); !slices.Equal(got, []string{"a", "b"}) {
		t.Errorf("Texts reads behind the end: %q", got)
	}
	if got := chain.Encode(l[:2]); !bytes.Equal(got, bytesOf(2, linked("a", "b"))) {
		t.Errorf("Encode reads behind the end: %x", got)
	}
	if !both(t, l[:2], linked("a", "b", "x")) || !both(t, linked("a", "b", "c")[:2], l[:2]) {
		t.Error("Prefix reads behind the end")
	}
	if got := chain.Make([]string{"a", "b"}[:1]); !slices.Equal(got, linked("a")) {
		t.Errorf("Make reads behind the end: %v", got)
	}
	b := chain.Encode(linked("a", "b"))
	refused(t, "bytes with their end in the spare room", b[:len(b)-1], api.ErrEnd, len(b)-1)
	if got, why, _ := chain.Decode(append(slices.Clone(b), 0)[:len(b)]); why != api.OK || len(got) != 2 {
		t.Errorf("Decode reads behind the end: %d", why)
	}
}
