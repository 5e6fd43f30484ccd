package wire_test

import (
	"math"
	"strings"
	"testing"

	"conclave/api"
	"conclave/wire"
)

const ab = "\x00\x00\x00\x02ab"

func reader(s string) *wire.Reader { return wire.NewReader([]byte(s)) }

// ends holds what End and Left answer against what they must, twice: they only look.
func ends(t *testing.T, what string, r *wire.Reader, why api.Errno, at, left int) {
	t.Helper()
	for range 2 {
		if w, a := r.End(); w != why || a != at {
			t.Errorf("%s: End is %v at %d, not %v at %d", what, w, a, why, at)
		}
		if n := r.Left(); n != left {
			t.Errorf("%s: %d left, not %d", what, n, left)
		}
	}
}

func TestP1_2_Byte(t *testing.T) {
	for n := range 256 {
		r := wire.NewReader([]byte{byte(n)})
		if got := r.Byte(); got != n {
			t.Errorf("Byte of %02x: %d", n, got)
		}
		ends(t, "Byte", r, api.OK, 0, 0)
	}
}

func TestP1_2_Four(t *testing.T) {
	for _, c := range []struct {
		s    string
		want int
	}{
		{"\x00\x00\x00\x00", 0},
		{"\x00\x00\x01\x02", 258},
		{"\x12\x34\x56\x78", 0x12345678},
		{"\x80\x00\x00\x00", 1 << 31},
		{"\xff\xff\xff\xff", 1<<32 - 1},
	} {
		r := reader(c.s)
		if got := r.Four(); got != c.want {
			t.Errorf("Four of % x: %d, not %d", c.s, got, c.want)
		}
		ends(t, "Four", r, api.OK, 0, 0)
	}
}

func TestP1_2_Eight(t *testing.T) {
	for _, c := range []struct {
		s    string
		want int64
	}{
		{"\x00\x00\x00\x00\x00\x00\x00\x00", 0},
		{"\x11\x22\x33\x44\x55\x66\x77\x88", 0x1122334455667788},
		{"\x7f\xff\xff\xff\xff\xff\xff\xff", math.MaxInt64},
		{"\x80\x00\x00\x00\x00\x00\x00\x00", math.MinInt64},
		{"\xff\xff\xff\xff\xff\xff\xff\xfe", -2},
	} {
		r := reader(c.s)
		if got := r.Eight(); got != c.want {
			t.Errorf("Eight of % x: %d, not %d", c.s, got, c.want)
		}
		ends(t, "Eight", r, api.OK, 0, 0)
	}
}

func TestP1_2_TextAndCount(t *testing.T) {
	for _, most := range []int{2, 3, math.MaxInt} {
		r := reader(ab)
		if s := r.Text(most); s != "ab" {
			t.Errorf("Text(%d): %q", most, s)
		}
		ends(t, "Text", r, api.OK, 0, 0)
		r = reader(ab)
		if n := r.Count(most); n != 2 {
			t.Errorf("Count(%d): %d", most, n)
		}
		ends(t, "Count", r, api.ErrTail, 4, 2)
	}
	for _, most := range []int{0, -1, math.MinInt} {
		r := reader("\x00\x00\x00\x00\x00\x00\x00\x00")
		if s, n := r.Text(most), r.Count(most); s != "" || n != 0 {
			t.Errorf("most %d: %q, %d", most, s, n)
		}
		ends(t, "none at most", r, api.OK, 0, 0)
	}
	r := reader("\x00\x00\x01\x00")
	if n := r.Count(256); n != 256 { // a Count may be of more than is left
		t.Errorf("Count(256): %d", n)
	}
	ends(t, "Count of more than is left", r, api.OK, 0, 0)
	r = reader("\xff\xff\xff\xff")
	if n := r.Count(1<<32 - 1); n != 1<<32-1 {
		t.Errorf("Count(2^32 - 1): %d", n)
	}
	ends(t, "the greatest Count", r, api.OK, 0, 0)
}

func TestP1_2_Refusals(t *testing.T) {
	for _, c := range []struct {
		what, s string
		do      func(r *wire.Reader)
		why     api.Errno
		at      int
	}{
		{"Byte of none", "", func(r *wire.Reader) { r.Byte() }, api.ErrEnd, 0},
		{"Byte behind the last", "a", func(r *wire.Reader) { r.Byte(); r.Byte() }, api.ErrEnd, 1},
		{"Four of none", "", func(r *wire.Reader) { r.Four() }, api.ErrEnd, 0},
		{"Four of three", "abc", func(r *wire.Reader) { r.Four() }, api.ErrEnd, 3},
		{"Four of three behind one", "abcd", func(r *wire.Reader) { r.Byte(); r.Four() }, api.ErrEnd, 4},
		{"Eight of seven", "abcdefg", func(r *wire.Reader) { r.Eight() }, api.ErrEnd, 7},
		{"Text of none", "", func(r *wire.Reader) { r.Text(9) }, api.ErrEnd, 0},
		{"Text within its length", ab[:3], func(r *wire.Reader) { r.Text(9) }, api.ErrEnd, 3},
		{"Text within its length, most below 0", ab[:3], func(r *wire.Reader) { r.Text(-1) }, api.ErrEnd, 3},
		{"Text without its bytes", ab[:4], func(r *wire.Reader) { r.Text(2) }, api.ErrEnd, 4},
		{"Text within its bytes", ab[:5], func(r *wire.Reader) { r.Text(2) }, api.ErrEnd, 5},
		{"Text within its bytes and above most", ab[:5], func(r *wire.Reader) { r.Text(1) }, api.ErrLong, 0},
		{"Text within its bytes behind one", "x" + ab[:5], func(r *wire.Reader) { r.Byte(); r.Text(2) }, api.ErrEnd, 6},
		{"Text above most", ab, func(r *wire.Reader) { r.Text(1) }, api.ErrLong, 0},
		{"Text above most behind one", "x" + ab, func(r *wire.Reader) { r.Byte(); r.Text(1) }, api.ErrLong, 1},
		{"Text above 0", ab, func(r *wire.Reader) { r.Text(0) }, api.ErrLong, 0},
		{"Text, most below 0", "\x00\x00\x00\x01a", func(r *wire.Reader) { r.Text(-5) }, api.ErrLong, 0},
		{"Text, most far below 0", "\x00\x00\x00\x01a", func(r *wire.Reader) { r.Text(math.MinInt) }, api.ErrLong, 0},
		{"Text of the greatest length", "\xff\xff\xff\xffab", func(r *wire.Reader) { r.Text(math.MaxInt) }, api.ErrEnd, 6},
		{"Text one above 2^31 - 1", "\x80\x00\x00\x00", func(r *wire.Reader) { r.Text(1<<31 - 1) }, api.ErrLong, 0},
		{"Count of three", "abc", func(r *wire.Reader) { r.Count(9) }, api.ErrEnd, 3},
		{"Count above most", ab, func(r *wire.Reader) { r.Count(1) }, api.ErrLong, 0},
		{"Count above most behind one", "x" + ab, func(r *wire.Reader) { r.Byte(); r.Count(1) }, api.ErrLong, 1},
		{"Count, most below 0", "\x00\x00\x00\x01", func(r *wire.Reader) { r.Count(-1) }, api.ErrLong, 0},
		{"the greatest Count", "\xff\xff\xff\xff", func(r *wire.Reader) { r.Count(1<<32 - 2) }, api.ErrLong, 0},
	} {
		r := reader(c.s)
		c.do(r)
		ends(t, c.what, r, c.why, c.at, 0)
		refused(t, c.what, r)
		ends(t, c.what+", behind it", r, c.why, c.at, 0)
	}
}

// refused makes every call behind a refusal: zero, empty, and nothing moves.
func refused(t *testing.T, what string, r *wire.Reader) {
	t.Helper()
	for range 2 {
		if a, b, c := r.Byte(), r.Four(), r.Eight(); a != 0 || b != 0 || c != 0 {
			t.Errorf("%s: numbers behind it: %d %d %d", what, a, b, c)
		}
		if s, n := r.Text(9), r.Count(9); s != "" || n != 0 {
			t.Errorf("%s: behind it: %q, %d", what, s, n)
		}
		if s, n := r.Text(-1), r.Count(-1); s != "" || n != 0 {
			t.Errorf("%s: behind it, most below 0: %q, %d", what, s, n)
		}
		r.Fail(api.ErrForm)
		r.Fail(api.OK)
	}
}

func TestP1_2_RefusedCallsAnswerZero(t *testing.T) {
	if n := reader("").Byte(); n != 0 {
		t.Errorf("Byte: %d", n)
	}
	if n := reader("abc").Four(); n != 0 {
		t.Errorf("Four: %d", n)
	}
	if n := reader("abcdefg").Eight(); n != 0 {
		t.Errorf("Eight: %d", n)
	}
	if s := reader(ab).Text(1); s != "" {
		t.Errorf("Text above most: %q", s)
	}
	if s := reader(ab[:5]).Text(2); s != "" {
		t.Errorf("Text cut off: %q", s)
	}
	if n := reader(ab).Count(1); n != 0 {
		t.Errorf("Count above most: %d", n)
	}
	if n := reader("abc").Count(9); n != 0 {
		t.Errorf("Count cut off: %d", n)
	}
}

func TestP1_2_Fail(t *testing.T) {
	for at := range 4 { // at the beginning, within, and at the end
		r := reader("abc")
		for range at {
			r.Byte()
		}
		r.Fail(api.OK)
		if n := r.Left(); n != 3-at {
			t.Errorf("Fail(OK) at %d: %d left", at, n)
		}
		r.Fail(api.Clash)
		ends(t, "Fail", r, api.Clash, at, 0)
		refused(t, "Fail", r)
		ends(t, "Fail, behind it", r, api.Clash, at, 0)
	}
	r := reader("ab")
	r.Byte()
	r.Fail(api.OK)
	if n := r.Byte(); n != 'b' {
		t.Errorf("Byte behind Fail(OK): %d", n)
	}
	ends(t, "Fail(OK)", r, api.OK, 0, 0)
	r = reader("ab")
	r.Fail(api.ErrEnd) // a caller's ErrEnd is here, not at the end of all
	ends(t, "Fail(ErrEnd)", r, api.ErrEnd, 0, 0)
	r = reader("ab")
	r.Fail(-7) // a number of no table is a refusal all the same
	ends(t, "Fail(-7)", r, -7, 0, 0)
}

func TestP1_2_FirstRefusalStays(t *testing.T) {
	r := reader(ab)
	r.Count(1)
	r.Fail(api.ErrForm)
	r.Eight()
	ends(t, "ErrLong first", r, api.ErrLong, 0, 0)
	r = reader("abc")
	r.Four()
	r.Fail(api.ErrForm)
	ends(t, "ErrEnd first", r, api.ErrEnd, 3, 0)
	r = reader("x" + ab)
	r.Byte()
	r.Fail(api.ErrName)
	r.Fail(api.ErrForm)
	r.Text(1)
	ends(t, "Fail first", r, api.ErrName, 1, 0)
}

func TestP1_2_LeftAndEnd(t *testing.T) {
	ends(t, "none", reader(""), api.OK, 0, 0)
	r := reader("\x07" + ab + "\x00\x00\x00\x09zz")
	ends(t, "at the beginning", r, api.ErrTail, 0, 13)
	r.Byte()
	ends(t, "behind a Byte", r, api.ErrTail, 1, 12)
	r.Text(2)
	ends(t, "behind a Text", r, api.ErrTail, 7, 6)
	r.Count(9)
	ends(t, "behind a Count", r, api.ErrTail, 11, 2)
	if a, b := r.Byte(), r.Byte(); a != 'z' || b != 'z' { // ErrTail of End is no refusal that stays
		t.Errorf("behind End: %d %d", a, b)
	}
	ends(t, "all", r, api.OK, 0, 0)
}

func TestR1_NilAndEmpty(t *testing.T) {
	for _, b := range [][]byte{nil, {}, []byte("abc")[:0]} {
		r := wire.NewReader(b)
		ends(t, "none", r, api.OK, 0, 0)
		if n := r.Byte(); n != 0 {
			t.Errorf("Byte of none: %d", n)
		}
		ends(t, "Byte of none", r, api.ErrEnd, 0, 0)
		refused(t, "Byte of none", r)
	}
}

func TestR2_BytesAreNotKept(t *testing.T) {
	b := []byte("\x07" + ab)
	r := wire.NewReader(b)
	fill(b)
	if n := r.Byte(); n != 7 {
		t.Errorf("Byte: %d", n)
	}
	s := r.Text(2)
	fill(b)
	if s != "ab" {
		t.Errorf("Text: %q", s)
	}
	ends(t, "changed behind NewReader", r, api.OK, 0, 0)
}

func TestR2_BytesAndTheirRoomAreNotChanged(t *testing.T) {
	room := []byte("\x07" + ab + strings.Repeat("r", 20))
	was := string(room)
	r := wire.NewReader(room[:7])
	r.Byte()
	r.Text(2)
	ends(t, "room behind the length", r, api.OK, 0, 0) // R5: it is not read
	r.Eight()
	ends(t, "read past the length", r, api.ErrEnd, 7, 0)
	r.Fail(api.ErrForm)
	if string(room) != was {
		t.Errorf("%q, not %q", room, was)
	}
}

func TestR4_ReadersAreApart(t *testing.T) {
	b := []byte("ab")
	x, y := wire.NewReader(b), wire.NewReader(b)
	x.Byte()
	x.Fail(api.ErrForm)
	ends(t, "the other one", y, api.ErrTail, 0, 2)
	if n := y.Byte(); n != 'a' {
		t.Errorf("Byte of the other one: %d", n)
	}
}
