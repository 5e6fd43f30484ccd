package ranges_test

import (
	"bytes"
	"fmt"
	"math"
	"math/rand"
	"slices"
	"strings"
	"testing"

	"conclave/api"
	"conclave/ranges"
)

func oddNumbers() []int {
	return []int{math.MinInt, math.MinInt + 1, -1 << 32, -257, -1, 0, 1, 2, 3, 9, 128, 255, 256, 257, 1 << 30, 1<<30 + 1, 1 << 32, math.MaxInt - 1, math.MaxInt}
}

// oddMaps answers Maps with any numbers and with very many Parts.
func oddMaps() []ranges.Map {
	list := []ranges.Map{{}, {Epoch: 1, Parts: make([]ranges.Part, 1<<18)}}
	for _, n := range oddNumbers() {
		for _, k := range oddNumbers() {
			list = append(list, of(n, 0, 256, k), of(1, n, k, 0), of(1, 0, n, 1, n, k, 2, k, 256, 0), of(k, n, k, n, k, n, k))
		}
	}
	var rise, same []ranges.Part
	for k := range 1 << 18 {
		rise = append(rise, ranges.Part{Lo: k, Hi: k + 1, Group: k % 3})
		same = append(same, ranges.Part{Hi: 256})
	}
	return append(list, ranges.Map{Epoch: 1, Parts: rise}, ranges.Map{Epoch: 1, Parts: same})
}

func TestR1_AnyMap(t *testing.T) {
	ops := []api.Op{{}, {Case: "a"}, {Case: "\xff\x00"}, {Case: strings.Repeat("a", 1<<10)}}
	for _, m := range oddMaps() {
		want := right(m)
		if ranges.Right(m) != want {
			t.Errorf("%.100v: Right: %t", m, !want)
		}
		for _, o := range ops {
			if g, ok := ranges.Owner(m, o.Case); ok != want || g < 0 || g > 2 {
				t.Errorf("%.100v: Owner: %d, %t", m, g, ok)
			}
		}
		if groups, places := ranges.Split(m, ops); len(groups) != len(places) || (len(groups) > 0) != want {
			t.Errorf("%.100v: Split: %v, %v", m, groups, places)
		}
		if either(t, "an odd Map", ranges.Save(m)) != want {
			t.Errorf("%.100v: Load of Save", m)
		}
		if x, why := ranges.Move(m, 0, 256, 0); (why == api.ErrArg) == want || ranges.Right(x) != (why == api.OK) {
			t.Errorf("%.100v: Move: %v, %d", m, x, why)
		}
	}
}

func TestR1_AnyNumbers(t *testing.T) {
	for _, lo := range oddNumbers() {
		ranges.New(lo)
		for _, hi := range oddNumbers() {
			for _, group := range oddNumbers() {
				may := lo >= 0 && lo < hi && hi <= 256 && group >= 0 && group < 3
				for _, m := range []ranges.Map{begun(t, 2), every(5)} {
					if x, why := ranges.Move(m, lo, hi, group); (why == api.OK) != may || !may && (why != api.ErrArg || !isNone(x)) {
						t.Errorf("Move(%d, %d, %d): %v, %d", lo, hi, group, x, why)
					}
				}
			}
		}
	}
}

func TestR1_AnyBytes(t *testing.T) {
	r := rand.New(rand.NewSource(9))
	taken := 0
	for k := range 60000 {
		b := make([]byte, r.Intn(100))
		for i := range b {
			if r.Intn(3) == 0 {
				b[i] = byte(r.Intn(256) >> r.Intn(8))
			}
		}
		if k%2 == 0 { // what is nearly right leads further on
			b = ranges.Save(anyRight(r))
			for range r.Intn(3) {
				b[r.Intn(len(b))] ^= byte(1 << r.Intn(8))
			}
			b = b[:len(b)-r.Intn(4)/3]
		}
		if either(t, fmt.Sprintf("% x", b), b) {
			taken++
		}
	}
	if taken < 1000 {
		t.Errorf("only %d rows of bytes were loaded", taken)
	}
	unloaded(t, "very many bytes", make([]byte, 1<<22))
}

func TestR1_ManyOperations(t *testing.T) {
	l := make([]api.Op, 1<<18)
	all := named()
	for k := range l {
		l[k].Case = all[k%256][k%3]
	}
	groups, places := ranges.Split(every(1), l)
	if len(groups) != 3 || len(places[0])+len(places[1])+len(places[2]) != len(l) || places[2][1] != 5 {
		t.Errorf("%v", groups)
	}
}

// roomy answers m with room behind its Parts, in which there is something.
func roomy(m ranges.Map) ranges.Map {
	m.Parts = append(slices.Clone(m.Parts), ranges.Part{Lo: 256, Hi: 300, Group: 7}, ranges.Part{Lo: 1, Hi: 2, Group: 1})[:len(m.Parts)]
	return m
}

// wide tells m with the room behind its Parts.
func wide(m ranges.Map) string { return fmt.Sprint(m.Epoch, m.Parts[:cap(m.Parts)]) }

// spoilMap writes all over m and the room behind its Parts.
func spoilMap(m ranges.Map) {
	for k := range m.Parts[:cap(m.Parts)] {
		m.Parts[:cap(m.Parts)][k] = ranges.Part{Lo: 77, Hi: 7, Group: 99}
	}
}

func spoilBytes(b []byte) {
	for k := range b[:cap(b)] {
		b[:cap(b)][k] = 0xee
	}
}

// Maps are as they were behind each call, their spare room too.
func TestR2_MapsStay(t *testing.T) {
	list := rights(t)
	for _, m := range wrongs() {
		list = append(list, m)
	}
	for _, m := range list {
		m = roomy(m)
		was := wide(m)
		ranges.Right(m)
		ranges.Owner(m, "a")
		ranges.Split(m, reads(0, 9, 255))
		ranges.Save(m)
		for lo := 0; lo < 256; lo += 5 {
			ranges.Move(m, lo, lo+1, lo%3)
			ranges.Move(m, lo, 256, lo%3)
			ranges.Move(m, 0, lo, lo%3)
		}
		if wide(m) != was {
			t.Errorf("%s became %s", was, wide(m))
		}
	}
}

func TestR2_MoveIsNewMemory(t *testing.T) {
	for _, m := range rights(t) {
		if m.Epoch == 1<<30 {
			continue
		}
		for _, c := range [][3]int{{0, 256, 0}, {0, 256, 2}, {5, 9, 1}, {0, 1, 0}, {255, 256, 2}, {20, 128, 0}} {
			in := roomy(m)
			one, _ := ranges.Move(in, c[0], c[1], c[2])
			two, _ := ranges.Move(in, c[0], c[1], c[2])
			want := fmt.Sprint(two)
			spoilMap(one)
			if !sameMap(in, m) || fmt.Sprint(two) != want {
				t.Errorf("Move(%v, %v) shares memory", m, c)
			}
			spoilMap(in)
			if fmt.Sprint(two) != want {
				t.Errorf("Move(%v, %v) keeps its Map", m, c)
			}
		}
	}
}

func TestR2_NewIsNewMemory(t *testing.T) {
	for groups := 1; groups <= 3; groups++ {
		one, two := begun(t, groups), begun(t, groups)
		want := fmt.Sprint(two)
		spoilMap(one)
		if fmt.Sprint(two) != want || fmt.Sprint(begun(t, groups)) != want {
			t.Errorf("New(%d) shares memory", groups)
		}
	}
}

func TestR2_Split(t *testing.T) {
	m := roomy(begun(t, 3))
	room := reads(255, 0, 128, 1, 254, 129, 2, 200, 100)
	was := slices.Clone(room)
	for n := range 7 {
		groups, places := ranges.Split(m, room[:n])
		again, more := ranges.Split(m, room[:n])
		want := fmt.Sprint(again, more)
		for i, list := range places {
			for k := range list[:cap(list)] {
				list[:cap(list)][k] = 77
			}
			for _, other := range places[i+1:] {
				if slices.Contains(other, 77) {
					t.Errorf("two lists share memory: %v", places)
				}
			}
		}
		for k := range groups[:cap(groups)] {
			groups[:cap(groups)][k] = 78
		}
		for i := range places {
			if slices.Contains(places[i], 78) {
				t.Errorf("groups and positions share memory: %v", places)
			}
		}
		if fmt.Sprint(again, more) != want || !slices.Equal(room, was) || !sameMap(m, begun(t, 3)) {
			t.Errorf("Split of %d shares memory", n)
		}
	}
	_, places := ranges.Split(m, room[:5])
	clear(room)
	if got := fmt.Sprint(places); got != "[[1 3] [2] [0 4]]" {
		t.Errorf("Split keeps its operations: %s", got)
	}
}

func TestR2_SaveAndLoad(t *testing.T) {
	for _, m := range rights(t) {
		one, two := ranges.Save(m), ranges.Save(m)
		want := slices.Clone(two)
		spoilBytes(one)
		in := roomy(m)
		saved := ranges.Save(in)
		spoilMap(in)
		if !bytes.Equal(two, want) || !bytes.Equal(saved, want) || !bytes.Equal(ranges.Save(m), want) {
			t.Fatalf("Save(%v) shares memory", m)
		}
		room := append(slices.Clone(want), "room behind"...)
		x, _ := ranges.Load(room[:len(want)])
		y, _ := ranges.Load(room[:len(want)])
		if string(room) != string(want)+"room behind" {
			t.Errorf("Load turned its bytes")
		}
		spoilBytes(room)
		spoilMap(x)
		if !sameMap(y, m) {
			t.Errorf("Load of %v shares memory: %v", m, y)
		}
	}
}

// nil and empty lists mean the same.
func TestR4_NoneAndEmpty(t *testing.T) {
	none := []ranges.Part{}
	for _, l := range [][]ranges.Part{nil, none, parts(0, 256, 0)[:0]} {
		m := ranges.Map{Epoch: 1, Parts: l}
		if ranges.Right(m) || !bytes.Equal(ranges.Save(m), ranges.Save(ranges.Map{Epoch: 1})) {
			t.Errorf("%v, with room for %d", m, cap(l))
		}
		stays(t, m, 0, 256, 0, api.ErrArg)
	}
	for _, l := range [][]api.Op{nil, {}, reads(0, 255)[:0]} {
		splits(t, "no operations", begun(t, 3), l, "[] []")
	}
}

// The room behind a list is not read.
func TestR5_RoomIsNotRead(t *testing.T) {
	all := parts(0, 9, 0, 9, 256, 1, 256, 300, 2)
	whole, short := ranges.Map{Epoch: 1, Parts: all[:2]}, ranges.Map{Epoch: 1, Parts: all[:1]}
	if !ranges.Right(whole) || ranges.Right(short) || ranges.Right(ranges.Map{Epoch: 1, Parts: all}) {
		t.Error("Right reads behind the Parts")
	}
	moves(t, whole, 0, 9, 2, of(2, 0, 9, 2, 9, 256, 1))
	stays(t, short, 0, 9, 2, api.ErrArg)
	if !bytes.Equal(ranges.Save(whole), ranges.Save(of(1, 0, 9, 0, 9, 256, 1))) {
		t.Error("Save reads behind the Parts")
	}
	splits(t, "room behind", begun(t, 2), reads(0, 255)[:1], "[0] [[0]]")
	b := ranges.Save(whole)
	unloaded(t, "what is short has room behind", b[:len(b)-1])
}

// Names are bytes: those that look alike have owners of their own.
func TestR5_NamesAreBytes(t *testing.T) {
	m := every(1)
	for _, name := range []string{"", "\x00", "\xff", "é", "e\u0301", "\xc3", "\ufffd", "A", "a", "a ", " a", "a\x00", strings.Repeat("q", 1<<16)} {
		owns(t, m, name, m.Parts[int(crc(name)&255)].Group)
	}
}

// crc is reckoned bit for bit, apart from package sum.
func crc(s string) uint32 {
	x := ^uint32(0)
	for _, b := range []byte(s) {
		x ^= uint32(b)
		for range 8 {
			x = x>>1 ^ 0xedb88320*(x&1)
		}
	}
	return ^x
}
