package shard_test

import (
	"bytes"
	"encoding/binary"
	"fmt"
	"math"
	"math/rand"
	"slices"
	"strings"
	"testing"

	"conclave/api"
	"conclave/shard"
)

const most = math.MaxInt32 // the greatest number of a command

// words answers c in words; nil and empty lists are the same in them.
func words(c shard.Cmd) string {
	return fmt.Sprintf("%d %q %+v %v %d %d %q", c.Kind, c.Tx, c.Ops, c.At, c.Lo, c.Hi, c.Data)
}

// commands answers commands of every kind, and of none.
func commands() []shard.Cmd {
	list := []shard.Cmd{
		{}, onceOf(read("a")), onceOf(create("a", "loan"), set("a", "sum", -5), add("a", "sum", 5), fire("a", "pay")), prepareOf("t", read("a"), read("b")),
		commitOf("t"), abortOf("t"), freezeOf(0, 256), takeOf(3, 9, []byte("data")), leaveOf(9, 9),
		{Kind: shard.Once, Ops: []api.Op{read("a"), read("b")}, At: []int{0, most}},
		{Kind: most, Tx: "\x00\xff", Lo: most, Hi: most, At: []int{most, 0, 1, most}, Data: []byte{0, 255, 0}},
		{Kind: shard.Prepare, Tx: strings.Repeat("long", 1<<14), Data: bytes.Repeat([]byte("data"), 1<<14)},
		{Ops: make([]api.Op, 300), At: make([]int, 300)}, {Ops: make([]api.Op, 300)}, {At: make([]int, 300)}, // as short as so many can be
		{Ops: []api.Op{{Kind: most, Case: strings.Repeat("c", 1<<14), Name: strings.Repeat("n", 1<<14), N: math.MinInt32}, {N: math.MaxInt32}, {N: -1}}},
	}
	for kind := range 9 {
		for _, n := range []int{0, 1, 255, 256, 1 << 16, 1 << 24, most - 1, most} {
			list = append(list, shard.Cmd{Kind: kind, Lo: n, Hi: most - n}, shard.Cmd{Kind: n, At: []int{n}}, shard.Cmd{Kind: kind, Tx: "t", Ops: []api.Op{{Kind: n, Case: "a", Name: "sum", N: n}, {Kind: kind, N: -n - 1}}})
		}
	}
	return list
}

func TestP16_4_DecodeOfEncode(t *testing.T) {
	told := map[string]string{}
	for _, c := range commands() {
		b := shard.EncodeCmd(c)
		d, why := shard.DecodeCmd(b)
		if why != api.OK || words(d) != words(c) {
			t.Errorf("%.300s: %.300s, %d", words(c), words(d), why)
		}
		if again := shard.EncodeCmd(d); !bytes.Equal(again, b) {
			t.Errorf("%.300s: other bytes when it is written again", words(c))
		}
		if other, ok := told[string(b)]; ok && other != words(c) {
			t.Errorf("%.300s has the bytes of %.300s", words(c), other)
		}
		told[string(b)] = words(c)
	}
}

// W6: what is read does what was written.
func TestP16_4_DecodedDoesTheSame(t *testing.T) {
	saved := everything(t).Save()
	for _, c := range append(commands(), goOn()...) {
		x, y := load(t, "everything", saved), load(t, "everything", saved)
		d, why := shard.DecodeCmd(shard.EncodeCmd(c))
		if why != api.OK {
			t.Fatalf("%.300s: %d", words(c), why)
		}
		if a, b := x.Do(c), y.Do(d); told(a) != told(b) || !bytes.Equal(a.Data, b.Data) || !bytes.Equal(x.Save(), y.Save()) {
			t.Errorf("%.300s: %s; not %s", words(c), told(b), told(a))
		}
	}
}

// undecoded looks whether b is refused.
func undecoded(t *testing.T, what string, b []byte) {
	t.Helper()
	if c, why := shard.DecodeCmd(b); why != api.ErrForm || words(c) != words(shard.Cmd{}) {
		t.Errorf("%s: %.300s, %d; not %d", what, words(c), why, api.ErrForm)
	}
}

func TestP16_4_DecodeOfOtherBytes(t *testing.T) {
	undecoded(t, "nil", nil)
	undecoded(t, "no bytes", []byte{})
	for n := 1; n < 100; n++ {
		undecoded(t, "bytes of all ones", bytes.Repeat([]byte{0xff}, n))
		if n != len(shard.EncodeCmd(shard.Cmd{})) {
			undecoded(t, "bytes of zero", make([]byte, n))
		}
	}
	undecoded(t, "a text", []byte("a command"))
}

func TestP16_4_DecodeCutOrLonger(t *testing.T) {
	for _, c := range commands() {
		b := shard.EncodeCmd(c)
		for n := 0; n < len(b); n += 1 + len(b)/500 {
			undecoded(t, fmt.Sprintf("%.100s: %d of %d bytes", words(c), n, len(b)), b[:n])
		}
		undecoded(t, "all but one", b[:len(b)-1])
		for _, tail := range []string{"\x00", "\xff", "\x00\x00\x00\x00", "tail"} {
			undecoded(t, "longer", append(slices.Clone(b), tail...))
		}
	}
}

// decodes looks whether b is refused, or read as a command that is written so. It tells which.
func decodes(t *testing.T, what string, b []byte) bool {
	t.Helper()
	c, why := shard.DecodeCmd(b)
	if why != api.OK {
		undecoded(t, what, b)
		return false
	}
	if !bytes.Equal(shard.EncodeCmd(c), b) {
		t.Errorf("%s: read as %s, which is written otherwise", what, words(c))
	}
	return true
}

func TestP16_4_DecodeTurned(t *testing.T) {
	c := shard.Cmd{Kind: shard.Take, Tx: "tx", Ops: []api.Op{set("a", "sum", -5), read("b")}, At: []int{0, most}, Lo: 3, Hi: 9, Data: []byte("data")}
	b := shard.EncodeCmd(c)
	taken := 0
	for at := range b {
		for to := range 256 {
			turned := slices.Clone(b)
			turned[at] = byte(to)
			if decodes(t, fmt.Sprintf("byte %d turned to %d", at, to), turned) {
				taken++
			}
		}
	}
	if taken < 1000 {
		t.Errorf("only %d were taken", taken)
	}
}

// written answers what may be a command's bytes, written apart from package shard: numbers may be any.
func written(c shard.Cmd) []byte {
	b := opsOf(text(four(nil, c.Kind), c.Tx), c.Ops)
	b = four(b, len(c.At))
	for _, n := range c.At {
		b = four(b, n)
	}
	return text(four(four(b, c.Lo), c.Hi), string(c.Data))
}

// Numbers at their bounds, and one beyond them.
func TestP16_4_DecodeOfNumbers(t *testing.T) {
	for _, c := range commands() {
		if got := shard.EncodeCmd(c); !bytes.Equal(got, written(c)) {
			t.Fatalf("%.300s: another writing than these tests have: % x", words(c), got)
		}
	}
	for _, n := range []int{-1, math.MinInt32, 1 << 31, 1<<31 + 1, 1<<32 - 1} {
		for what, c := range map[string]shard.Cmd{
			"Kind": {Kind: n}, "Lo": {Lo: n}, "Hi": {Hi: n}, "At": {At: []int{n}}, "the last At": {At: []int{0, 1, n}},
			"an operation's Kind": {Ops: []api.Op{{Kind: n}}}, "the last operation's Kind": {Ops: []api.Op{{}, {Kind: n}}},
		} {
			undecoded(t, fmt.Sprintf("%s is %d", what, n), written(c))
		}
	}
	for _, n := range []int{math.MinInt, -1 << 32, math.MinInt32 - 1, math.MaxInt32 + 1, 1 << 32, math.MaxInt} {
		undecoded(t, fmt.Sprint("N is ", n), written(shard.Cmd{Ops: []api.Op{{N: n}}}))
		undecoded(t, fmt.Sprint("the last N is ", n), written(shard.Cmd{Ops: []api.Op{{N: 1}, {N: n}}}))
	}
	for _, n := range []int{math.MinInt32, math.MinInt32 + 1, -1, 0, 1, math.MaxInt32 - 1, math.MaxInt32} {
		c := shard.Cmd{Ops: []api.Op{{N: n}}}
		if d, why := shard.DecodeCmd(written(c)); why != api.OK || words(d) != words(c) {
			t.Errorf("N is %d: %s, %d", n, words(d), why)
		}
	}
}

// A length that is not that of what follows.
func TestP16_4_DecodeOfWrongLengths(t *testing.T) {
	c := shard.Cmd{Kind: 2, Tx: "tx", Ops: []api.Op{{Kind: 1, Case: "case", Name: "name", N: 1}}, At: []int{1}, Lo: 1, Hi: 2, Data: []byte("data")}
	b := written(c)
	for what, at := range map[string]int{"Tx": 4, "Ops": 10, "a Case": 18, "a Name": 26, "At": 42, "Data": len(b) - 8} {
		right := binary.BigEndian.Uint32(b[at:])
		for _, n := range []uint32{0, 1, 2, 3, 4, 5, 6, 20, 100, 1 << 16, 1<<31 - 1, 1 << 31, 1<<32 - 1} {
			wrong := slices.Clone(b)
			binary.BigEndian.PutUint32(wrong[at:], n)
			if n == right {
				continue
			}
			undecoded(t, fmt.Sprintf("%d for %s", n, what), wrong)
		}
	}
}

// What can't come back has no bytes that would be read as another command.
func TestP16_4_EncodeBeyondItsNumbers(t *testing.T) {
	for _, n := range []int{-1, math.MinInt32, math.MinInt, 1 << 31, 1<<32 + 1, 1<<32 - 1, math.MaxInt} {
		for _, c := range []shard.Cmd{{Kind: n}, {Lo: n}, {Hi: n}, {At: []int{0, n}}, {Ops: []api.Op{{}, {Kind: n}}}} {
			undecoded(t, fmt.Sprint("the bytes of ", words(c)), shard.EncodeCmd(c))
		}
	}
	for _, n := range []int{math.MinInt32 - 1, math.MinInt, 1 << 31, 1<<32 + 1, math.MaxInt} {
		undecoded(t, fmt.Sprint("the bytes of N ", n), shard.EncodeCmd(shard.Cmd{Kind: 1, Ops: []api.Op{{N: n}}}))
	}
}

func TestR1_DecodeOfAnyBytes(t *testing.T) {
	r := rand.New(rand.NewSource(17))
	list := commands()
	taken := 0
	for k := range 40000 {
		b := make([]byte, r.Intn(80))
		for i := range b {
			if r.Intn(4) == 0 {
				b[i] = byte(r.Intn(256) >> r.Intn(8))
			}
		}
		if k%2 == 0 {
			if c := written(list[r.Intn(len(list))]); len(c) < 200 {
				b = c
				b[r.Intn(len(b))] = byte(r.Intn(256) >> r.Intn(8))
			}
		}
		if decodes(t, fmt.Sprintf("% x", b), b) {
			taken++
		}
	}
	if taken < 100 {
		t.Errorf("only %d were taken", taken)
	}
}
