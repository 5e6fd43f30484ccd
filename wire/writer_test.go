package wire_test

import (
	"bytes"
	"math"
	"testing"

	"conclave/wire"
)

// written answers what a new Writer holds behind do.
func written(do func(w *wire.Writer)) []byte {
	w := wire.NewWriter()
	do(w)
	return w.Done()
}

func TestP1_1_NewWriterHoldsNothing(t *testing.T) {
	if b := wire.NewWriter().Done(); len(b) != 0 {
		t.Errorf("Done of a new Writer: % x", b)
	}
}

func TestP1_1_Byte(t *testing.T) {
	for _, c := range []struct {
		n    int
		want string
	}{
		{0, "\x00"},
		{1, "\x01"},
		{127, "\x7f"},
		{128, "\x80"},
		{255, "\xff"},
		{256, "\x00"},
		{258, "\x02"},
		{0x12345678, "\x78"},
		{-1, "\xff"},
		{-2, "\xfe"},
		{-128, "\x80"},
		{-256, "\x00"},
		{math.MaxInt, "\xff"},
		{math.MinInt, "\x00"},
	} {
		if b := written(func(w *wire.Writer) { w.Byte(c.n) }); string(b) != c.want {
			t.Errorf("Byte(%d): % x, not % x", c.n, b, c.want)
		}
	}
}

func TestP1_1_Four(t *testing.T) {
	for _, c := range []struct {
		n    int
		want string
	}{
		{0, "\x00\x00\x00\x00"},
		{258, "\x00\x00\x01\x02"},
		{0x12345678, "\x12\x34\x56\x78"},
		{1 << 31, "\x80\x00\x00\x00"},
		{1<<32 - 1, "\xff\xff\xff\xff"},
		{1 << 32, "\x00\x00\x00\x00"},
		{1<<32 + 7, "\x00\x00\x00\x07"},
		{0x1122334455667788, "\x55\x66\x77\x88"},
		{-1, "\xff\xff\xff\xff"},
		{-2, "\xff\xff\xff\xfe"},
		{-1 << 31, "\x80\x00\x00\x00"},
		{math.MaxInt, "\xff\xff\xff\xff"},
		{math.MinInt, "\x00\x00\x00\x00"},
	} {
		if b := written(func(w *wire.Writer) { w.Four(c.n) }); string(b) != c.want {
			t.Errorf("Four(%d): % x, not % x", c.n, b, c.want)
		}
	}
}

func TestP1_1_Eight(t *testing.T) {
	for _, c := range []struct {
		n    int64
		want string
	}{
		{0, "\x00\x00\x00\x00\x00\x00\x00\x00"},
		{258, "\x00\x00\x00\x00\x00\x00\x01\x02"},
		{0x1122334455667788, "\x11\x22\x33\x44\x55\x66\x77\x88"},
		{1 << 32, "\x00\x00\x00\x01\x00\x00\x00\x00"},
		{-1, "\xff\xff\xff\xff\xff\xff\xff\xff"},
		{-2, "\xff\xff\xff\xff\xff\xff\xff\xfe"},
		{math.MaxInt64, "\x7f\xff\xff\xff\xff\xff\xff\xff"},
		{math.MinInt64, "\x80\x00\x00\x00\x00\x00\x00\x00"},
	} {
		if b := written(func(w *wire.Writer) { w.Eight(c.n) }); string(b) != c.want {
			t.Errorf("Eight(%d): % x, not % x", c.n, b, c.want)
		}
	}
}

func TestP1_1_Text(t *testing.T) {
	long := string(bytes.Repeat([]byte("q"), 300))
	for _, c := range []struct{ s, want string }{
		{"", "\x00\x00\x00\x00"},
		{"ab", "\x00\x00\x00\x02ab"},
		{"\x00", "\x00\x00\x00\x01\x00"},
		{"\xff\xfe", "\x00\x00\x00\x02\xff\xfe"},
		{"é", "\x00\x00\x00\x02\xc3\xa9"},
		{long, "\x00\x00\x01\x2c" + long},
	} {
		if b := written(func(w *wire.Writer) { w.Text(c.s) }); string(b) != c.want {
			t.Errorf("Text(%q): % x, not % x", c.s, b, c.want)
		}
	}
}

func TestP1_1_OneBehindTheOther(t *testing.T) {
	w := wire.NewWriter()
	want := ""
	for _, c := range []struct {
		do   func()
		more string
	}{
		{func() { w.Four(258) }, "\x00\x00\x01\x02"},
		{func() { w.Text("ab") }, "\x00\x00\x00\x02ab"},
		{func() { w.Byte(-1) }, "\xff"},
		{func() { w.Text("") }, "\x00\x00\x00\x00"},
		{func() { w.Eight(-2) }, "\xff\xff\xff\xff\xff\xff\xff\xfe"},
	} {
		c.do()
		want += c.more
		for range 2 { // Done ends nothing and takes nothing away
			if b := w.Done(); string(b) != want {
				t.Fatalf("% x, not % x", b, want)
			}
		}
	}
}

func TestP1_1_WritersAreApart(t *testing.T) {
	a, b := wire.NewWriter(), wire.NewWriter()
	a.Byte(1)
	b.Byte(2)
	a.Byte(3)
	if string(a.Done()) != "\x01\x03" || string(b.Done()) != "\x02" {
		t.Errorf("% x and % x", a.Done(), b.Done())
	}
}

// fill writes over a list and over the room behind it.
func fill(b []byte) {
	b = b[:cap(b)]
	for i := range b {
		b[i] = 0xee
	}
}

func TestR2_DoneIsNewMemory(t *testing.T) {
	w := wire.NewWriter()
	want := ""
	for n := range 200 { // at some of these lengths the Writer has room to spare
		first, second := w.Done(), w.Done()
		fill(first)
		if string(second) != want || string(w.Done()) != want {
			t.Fatalf("after %d bytes: an answer was changed through another one", n)
		}
		fill(second)
		w.Byte(n)
		want += string([]byte{byte(n)})
		for _, b := range [][]byte{first, second} {
			for _, x := range b[:cap(b)] {
				if x != 0xee {
					t.Fatalf("after %d bytes: Byte wrote into an answer", n)
				}
			}
		}
		if string(w.Done()) != want {
			t.Fatalf("after %d bytes: % x, not % x", n, w.Done(), want)
		}
	}
}
