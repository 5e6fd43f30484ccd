package wire_test

import (
	"math"
	"math/rand"
	"strings"
	"testing"

	"conclave/api"
	"conclave/wire"
)

// value is something that is written: of kind Byte, Four, Eight, Text or Count.
type value struct {
	kind byte
	n    int64
	s    string
}

func write(w *wire.Writer, v value) {
	switch v.kind {
	case 'b':
		w.Byte(int(v.n))
	case 'f', 'c':
		w.Four(int(v.n))
	case 'e':
		w.Eight(v.n)
	case 't':
		w.Text(v.s)
	}
}

func read(r *wire.Reader, kind byte) value {
	v := value{kind: kind}
	switch kind {
	case 'b':
		v.n = int64(r.Byte())
	case 'f':
		v.n = int64(r.Four())
	case 'c':
		v.n = int64(r.Count(math.MaxInt))
	case 'e':
		v.n = r.Eight()
	case 't':
		v.s = r.Text(math.MaxInt)
	}
	return v
}

// edges are values that come back as they are.
func edges() []value {
	var l []value
	for n := range 256 {
		l = append(l, value{kind: 'b', n: int64(n)})
	}
	for _, n := range []int64{0, 1, 255, 256, 258, 65535, 65536, 1<<24 - 1, 1 << 24, 1<<31 - 1, 1 << 31, 1<<32 - 1} {
		l = append(l, value{kind: 'f', n: n}, value{kind: 'c', n: n}, value{kind: 'e', n: n}, value{kind: 'e', n: -n})
	}
	for _, n := range []int64{math.MaxInt64, math.MinInt64, math.MinInt64 + 1, 1 << 32, 1 << 40, -1 << 40} {
		l = append(l, value{kind: 'e', n: n})
	}
	for _, s := range []string{"", "a", "ab", "\x00", "\x00\x00\x00\x00", "\x00\x00\x00\x02ab", "\xff", "é", strings.Repeat("q", 4000)} {
		l = append(l, value{kind: 't', s: s})
	}
	return l
}

func TestP1_3_WhatIsWrittenIsRead(t *testing.T) {
	for _, v := range edges() {
		b := written(func(w *wire.Writer) { write(w, v) })
		r := wire.NewReader(b)
		if got := read(r, v.kind); got != v {
			t.Errorf("%#v came back as %#v", v, got)
		}
		ends(t, "back", r, api.OK, 0, 0)
	}
}

func TestP1_3_RowsComeBack(t *testing.T) {
	x := rand.New(rand.NewSource(1))
	all := edges()
	for range 500 {
		w := wire.NewWriter()
		row := make([]value, x.Intn(12))
		for i := range row {
			row[i] = all[x.Intn(len(all))]
			write(w, row[i])
		}
		r := wire.NewReader(w.Done())
		for _, v := range row {
			if got := read(r, v.kind); got != v {
				t.Fatalf("%#v came back as %#v in %#v", v, got, row)
			}
		}
		ends(t, "row", r, api.OK, 0, 0)
	}
}

func TestP1_3_NumbersPastTheirBitsComeBackCut(t *testing.T) {
	for _, n := range []int{-1, -2, -256, 256, 258, 1 << 32, 1<<32 + 7, math.MaxInt, math.MinInt} {
		w := wire.NewWriter()
		w.Byte(n)
		w.Four(n)
		r := wire.NewReader(w.Done())
		if a, b := r.Byte(), r.Four(); a != n&0xff || b != n&0xffffffff {
			t.Errorf("%d came back as %d and %d", n, a, b)
		}
		ends(t, "cut", r, api.OK, 0, 0)
	}
}

// A row of bytes that can be read is just what a Writer would have written.
func TestP1_3_OneWriting(t *testing.T) {
	x := rand.New(rand.NewSource(2))
	kinds := "bfcet"
	whole := 0
	for range 20000 {
		b := make([]byte, x.Intn(24))
		for i := range b {
			b[i] = byte(x.Intn(256))
			if x.Intn(4) > 0 { // so that lengths of texts are small
				b[i] = byte(x.Intn(2))
			}
		}
		r, w := wire.NewReader(b), wire.NewWriter()
		for r.Left() > 0 {
			v := read(r, kinds[x.Intn(len(kinds))])
			if why, _ := r.End(); why == api.ErrEnd {
				break
			}
			write(w, v)
		}
		if why, _ := r.End(); why != api.OK {
			continue
		}
		whole++
		if string(w.Done()) != string(b) {
			t.Fatalf("% x is written as % x", b, w.Done())
		}
	}
	if whole < 1000 {
		t.Errorf("only %d rows were read to their ends", whole)
	}
}

// No writing is the beginning of another one of its kind: what is cut off is refused, at the end of all.
func TestP1_3_NoWritingIsCutOffUnseen(t *testing.T) {
	for _, v := range edges() {
		b := written(func(w *wire.Writer) { write(w, v) })
		for n := range min(len(b), 40) {
			r := wire.NewReader(b[:n])
			if got := read(r, v.kind); got != (value{kind: v.kind}) {
				t.Errorf("%d bytes of %#v: %#v", n, v, got)
			}
			ends(t, "cut off", r, api.ErrEnd, n, 0)
		}
	}
}
