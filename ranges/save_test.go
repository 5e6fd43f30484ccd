package ranges_test

import (
	"bytes"
	"encoding/binary"
	"fmt"
	"math"
	"math/rand"
	"slices"
	"testing"

	"conclave/api"
	"conclave/ranges"
)

// bytesOf answers what may be a Map's bytes, written apart from package ranges: the Epoch, how many Parts there are,
// and these, each of which may be wrong.
func bytesOf(count int, m ranges.Map) []byte {
	b := binary.BigEndian.AppendUint64(nil, uint64(m.Epoch))
	b = binary.BigEndian.AppendUint32(b, uint32(count))
	for _, p := range m.Parts {
		for _, n := range []int{p.Lo, p.Hi, p.Group} {
			b = binary.BigEndian.AppendUint64(b, uint64(n))
		}
	}
	return b
}

func unloaded(t *testing.T, what string, b []byte) {
	t.Helper()
	if m, why := ranges.Load(b); !isNone(m) || why != api.ErrForm {
		t.Errorf("%s: Load: %v, %d", what, m, why)
	}
}

// either looks whether b is refused, or loaded as a Right Map that is saved as b. It tells which.
func either(t *testing.T, what string, b []byte) bool {
	t.Helper()
	m, why := ranges.Load(b)
	if why != api.OK {
		if !isNone(m) || why != api.ErrForm {
			t.Errorf("%s: %v, %d", what, m, why)
		}
		return false
	}
	if !right(m) || !bytes.Equal(ranges.Save(m), b) {
		t.Errorf("%s: Load took %v", what, m)
	}
	return true
}

func TestP17_2_LoadOfSave(t *testing.T) {
	list := rights(t)
	r := rand.New(rand.NewSource(6))
	for range 1000 {
		list = append(list, anyRight(r))
	}
	for _, m := range list {
		if got, why := ranges.Load(ranges.Save(m)); !sameMap(got, m) || why != api.OK {
			t.Fatalf("%v came back as %v, %d", m, got, why)
		}
		if !bytes.Equal(ranges.Save(m), ranges.Save(m)) {
			t.Fatalf("%v: other bytes when it is saved again", m)
		}
	}
}

func TestP17_2_SaveTellsMapsApart(t *testing.T) {
	seen := map[string]ranges.Map{}
	put := func(m ranges.Map) {
		b := string(ranges.Save(m))
		if other, ok := seen[b]; ok && !sameMap(m, other) {
			t.Fatalf("%v and %v are saved as the same bytes", m, other)
		}
		seen[b] = m
	}
	for _, m := range rights(t) {
		put(m)
	}
	for epoch := range 40 {
		put(of(1<<epoch, 0, 256, 0))
	}
	for at := 1; at < 256; at++ {
		for group := range 3 {
			put(of(1, 0, at, group, at, 256, (group+1)%3))
			put(of(1, 0, at, group, at, 256, (group+2)%3))
		}
	}
	r := rand.New(rand.NewSource(7))
	for range 5000 {
		put(anyMap(r))
	}
}

// What is not Right does not come back, and does not look like what is.
func TestP17_2_LoadOfMapsThatAreNotRight(t *testing.T) {
	for what, m := range wrongs() {
		unloaded(t, what, ranges.Save(m))
		unloaded(t, what, bytesOf(len(m.Parts), m))
	}
	r := rand.New(rand.NewSource(8))
	for range 5000 {
		m := anyMap(r)
		if either(t, fmt.Sprint(m), ranges.Save(m)) != right(m) {
			t.Fatalf("%v: Load of Save", m)
		}
	}
}

func TestP17_2_LoadOfOtherBytes(t *testing.T) {
	unloaded(t, "nil", nil)
	unloaded(t, "no bytes", []byte{})
	for n := 1; n < 200; n++ {
		unloaded(t, "bytes of all ones", bytes.Repeat([]byte{0xff}, n))
		unloaded(t, "bytes of one", bytes.Repeat([]byte{1}, n))
		unloaded(t, "bytes of zero", make([]byte, n))
	}
	unloaded(t, "a text", []byte("a map that tells who owns what"))
}

func TestP17_2_LoadCutOffAndLonger(t *testing.T) {
	for k, m := range rights(t) {
		b := ranges.Save(m)
		for n := range b {
			unloaded(t, fmt.Sprintf("map %d, %d of %d bytes", k, n, len(b)), b[:n])
		}
		for _, tail := range []string{"\x00", "\x01", "\xff", "tail", string(b), string(make([]byte, 24))} {
			unloaded(t, fmt.Sprintf("map %d with %d bytes behind", k, len(tail)), append(slices.Clone(b), tail...))
		}
	}
}

func TestP17_2_LoadTurned(t *testing.T) {
	taken := 0
	for k, m := range rights(t) {
		b := ranges.Save(m)
		for at := range min(len(b), 84) {
			for to := 0; to < 256; to += 1 + len(b)/1000 {
				turned := slices.Clone(b)
				turned[at] = byte(to)
				if either(t, fmt.Sprintf("map %d, byte %d turned to %d", k, at, to), turned) && !bytes.Equal(turned, b) {
					taken++
				}
			}
		}
	}
	if taken == 0 {
		t.Error("no byte could be turned: not even that of an Epoch")
	}
}

func TestP17_2_LoadOfWrongCounts(t *testing.T) {
	for k, m := range rights(t) {
		n := len(m.Parts)
		if !either(t, "the right count", bytesOf(n, m)) {
			t.Fatalf("map %d: another writing than these tests have", k)
		}
		for _, count := range []int{0, n - 1, n + 1, 255, 256, 257, 1 << 16, 1<<31 - 1, 1 << 31, 1<<32 - 1} {
			if count != n {
				unloaded(t, fmt.Sprintf("map %d, which has %d Parts, with a count of %d", k, n, count), bytesOf(count, m))
			}
		}
	}
	long := every(1)
	long.Parts = append(long.Parts, ranges.Part{Lo: 256, Hi: 257, Group: 1})
	unloaded(t, "257 Parts", bytesOf(257, long))
}

func TestP17_2_LoadOfWrongNumbers(t *testing.T) {
	for k := range 7 {
		for _, n := range []int{math.MinInt, -1 << 32, -1, 3, 10, 257, 1<<30 + 1, 1<<32 + 1, 1<<32 + 9, 1 << 56, math.MaxInt} {
			l := []int{1, 0, 9, 0, 9, 256, 1}
			l[k] = n
			m := of(l[0], l[1:]...)
			if either(t, fmt.Sprint(m), bytesOf(2, m)) != right(m) {
				t.Errorf("%v: Load", m)
			}
		}
	}
}
