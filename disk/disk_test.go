package disk_test

import (
	"bytes"
	"math"
	"testing"

	"conclave/api"
	"conclave/disk"
)

// with answers a disk whose first bytes are safe, with loose ones behind them.
func with(t *testing.T, safe, loose string) *disk.Disk {
	t.Helper()
	d := disk.New()
	put(t, d, safe)
	d.Sync()
	put(t, d, loose)
	return d
}

func put(t *testing.T, d *disk.Disk, s string) {
	t.Helper()
	if why := d.Append([]byte(s)); why != api.OK {
		t.Fatalf("Append(%q): %d", s, why)
	}
}

// holds looks whether the bytes of d are all, and the first safe of them safe.
func holds(t *testing.T, what string, d *disk.Disk, all string, safe int) {
	t.Helper()
	if got := string(d.Bytes()); got != all || d.Safe() != safe {
		t.Errorf("%s: %q, %d safe; not %q, %d safe", what, got, d.Safe(), all, safe)
	}
}

func TestP4_1_Run(t *testing.T) {
	d := disk.New()
	put(t, d, "ab")
	d.Sync()
	put(t, d, "cd")
	d.Crash(1)
	holds(t, "the chapter's run", d, "abc", 3)
}

func TestP4_1_Examples(t *testing.T) {
	d := disk.New()
	d.Crash(0)
	holds(t, "example 1", d, "", 0)
	d = with(t, "", "abc")
	if why := d.Cut(9); why != api.ErrArg {
		t.Errorf("example 2: %d", why)
	}
	holds(t, "example 2", d, "abc", 0)
}

func TestP4_1_New(t *testing.T) {
	a, b := disk.New(), disk.New()
	holds(t, "a new disk", a, "", 0)
	a.Sync()
	holds(t, "Sync of a new disk", a, "", 0)
	put(t, a, "a")
	a.Sync()
	holds(t, "another disk", b, "", 0)
}

func TestP4_1_Append(t *testing.T) {
	d := disk.New()
	put(t, d, "")
	holds(t, "nothing on nothing", d, "", 0)
	put(t, d, "a\x00\xff")
	holds(t, "three bytes", d, "a\x00\xff", 0)
	d.Sync()
	put(t, d, "")
	if why := d.Append(nil); why != api.OK {
		t.Errorf("Append(nil): %d", why)
	}
	holds(t, "nothing behind three", d, "a\x00\xff", 3)
	put(t, d, "b")
	put(t, d, "cd")
	holds(t, "twice behind three", d, "a\x00\xffbcd", 3)
}

// pattern answers n bytes that differ from place to place.
func pattern(n int) []byte {
	b := make([]byte, n)
	for i := range b {
		b[i] = byte(i ^ i>>8 ^ i>>16)
	}
	return b
}

func TestP4_1_AppendToMaxDisk(t *testing.T) {
	all := pattern(api.MaxDisk)
	for _, first := range []int{0, 1, 4000, api.MaxDisk - 1, api.MaxDisk} {
		d := disk.New()
		if why := d.Append(all[:first]); why != api.OK {
			t.Fatalf("Append of %d bytes: %d", first, why)
		}
		d.Sync()
		if why := d.Append(append(all[first:len(all):len(all)], 'x')); why != api.ErrFull {
			t.Errorf("a byte beyond MaxDisk behind %d: %d", first, why)
		}
		if got := d.Bytes(); !bytes.Equal(got, all[:first]) || d.Safe() != first {
			t.Errorf("a refused Append behind %d bytes left %d, %d safe", first, len(got), d.Safe())
		}
		if why := d.Append(all[first:]); why != api.OK {
			t.Errorf("to MaxDisk from %d bytes on: %d", first, why)
		}
		if got := d.Bytes(); !bytes.Equal(got, all) || d.Safe() != first {
			t.Errorf("to MaxDisk from %d bytes on: %d, %d safe", first, len(got), d.Safe())
		}
		if d.Append([]byte("x")) != api.ErrFull || d.Append(nil) != api.OK || d.Append([]byte{}) != api.OK {
			t.Error("a full disk takes nothing, and takes it without a refusal")
		}
		if got := d.Bytes(); !bytes.Equal(got, all) || d.Safe() != first {
			t.Errorf("a full disk turned: %d, %d safe", len(got), d.Safe())
		}
	}
}

func TestP4_1_AppendBeyondAnEmptyDisk(t *testing.T) {
	d := disk.New()
	if why := d.Append(make([]byte, api.MaxDisk+1)); why != api.ErrFull {
		t.Errorf("MaxDisk and one: %d", why)
	}
	if why := d.Append(make([]byte, 3*api.MaxDisk)); why != api.ErrFull {
		t.Errorf("thrice MaxDisk: %d", why)
	}
	holds(t, "refused on nothing", d, "", 0)
	put(t, d, "a")
	holds(t, "behind refusals", d, "a", 0)
}

func TestP4_1_RoomComesBack(t *testing.T) {
	all := pattern(api.MaxDisk)
	d := disk.New()
	d.Append(all)
	d.Cut(api.MaxDisk - 2)
	if d.Append([]byte("abc")) != api.ErrFull || d.Append([]byte("ab")) != api.OK {
		t.Error("two bytes were cut: two have room, three have not")
	}
	d.Cut(api.MaxDisk - 1)
	d.Sync()
	d.Append([]byte("c"))
	d.Crash(0)
	if d.Append([]byte("de")) != api.ErrFull || d.Append([]byte("d")) != api.OK {
		t.Error("one byte was torn off: one has room, two have not")
	}
	if got := d.Bytes(); !bytes.Equal(got, append(all[:api.MaxDisk-2:api.MaxDisk-2], "ad"...)) {
		t.Errorf("ends with %q", got[len(got)-3:])
	}
}

func TestP4_1_SyncAndSafe(t *testing.T) {
	d := with(t, "ab", "cd")
	holds(t, "two safe, two not", d, "abcd", 2)
	d.Sync()
	holds(t, "all safe", d, "abcd", 4)
	d.Sync()
	holds(t, "Sync again", d, "abcd", 4)
	put(t, d, "e")
	holds(t, "one behind", d, "abcde", 4)
	d.Sync()
	holds(t, "Sync of one", d, "abcde", 5)
}

func TestP4_1_Cut(t *testing.T) {
	for _, c := range []struct {
		safe, loose string
		n           int
		why         api.Errno
		all         string
		left        int
	}{
		{"", "", 0, api.OK, "", 0},
		{"", "", 1, api.ErrArg, "", 0},
		{"", "", -1, api.ErrArg, "", 0},
		{"abc", "def", 0, api.OK, "", 0},
		{"abc", "def", 1, api.OK, "a", 1},
		{"abc", "def", 2, api.OK, "ab", 2},
		{"abc", "def", 3, api.OK, "abc", 3},
		{"abc", "def", 4, api.OK, "abcd", 3},
		{"abc", "def", 5, api.OK, "abcde", 3},
		{"abc", "def", 6, api.OK, "abcdef", 3},
		{"abc", "def", 7, api.ErrArg, "abcdef", 3},
		{"abc", "def", -1, api.ErrArg, "abcdef", 3},
		{"abc", "def", math.MaxInt, api.ErrArg, "abcdef", 3},
		{"abc", "def", math.MinInt, api.ErrArg, "abcdef", 3},
		{"abc", "", 3, api.OK, "abc", 3},
		{"abc", "", 2, api.OK, "ab", 2},
		{"abc", "", 4, api.ErrArg, "abc", 3},
		{"", "abc", 2, api.OK, "ab", 0},
		{"", "abc", 0, api.OK, "", 0},
	} {
		d := with(t, c.safe, c.loose)
		if why := d.Cut(c.n); why != c.why {
			t.Errorf("%q and %q: Cut(%d): %d, not %d", c.safe, c.loose, c.n, why, c.why)
		}
		holds(t, "Cut", d, c.all, c.left)
	}
}

// What was cut does not come back, and is not taken for safe when other bytes stand where it stood.
func TestP4_1_BehindCut(t *testing.T) {
	d := with(t, "abcdef", "")
	d.Cut(2)
	if why := d.Cut(3); why != api.ErrArg {
		t.Errorf("Cut to what was cut: %d", why)
	}
	d.Crash(4)
	holds(t, "Crash behind Cut", d, "ab", 2)
	put(t, d, "xyz")
	holds(t, "Append behind Cut", d, "abxyz", 2)
	d.Crash(1)
	holds(t, "Crash behind them", d, "abx", 3)
}

func TestP4_1_Crash(t *testing.T) {
	for _, c := range []struct {
		safe, loose string
		keep        int
		all         string
	}{
		{"", "", 0, ""},
		{"", "", 5, ""},
		{"", "", -5, ""},
		{"", "", math.MaxInt, ""},
		{"", "", math.MinInt, ""},
		{"ab", "cdef", math.MinInt, "ab"},
		{"ab", "cdef", -3, "ab"},
		{"ab", "cdef", -1, "ab"},
		{"ab", "cdef", 0, "ab"},
		{"ab", "cdef", 1, "abc"},
		{"ab", "cdef", 2, "abcd"},
		{"ab", "cdef", 3, "abcde"},
		{"ab", "cdef", 4, "abcdef"},
		{"ab", "cdef", 5, "abcdef"},
		{"ab", "cdef", 6, "abcdef"},
		{"ab", "cdef", math.MaxInt, "abcdef"},
		{"ab", "", 0, "ab"},
		{"ab", "", 1, "ab"},
		{"ab", "", -1, "ab"},
		{"", "cdef", -1, ""},
		{"", "cdef", 0, ""},
		{"", "cdef", 3, "cde"},
		{"", "cdef", 9, "cdef"},
	} {
		d := with(t, c.safe, c.loose)
		d.Crash(c.keep)
		holds(t, "Crash", d, c.all, len(c.all))
		d.Crash(math.MinInt)
		holds(t, "Crash again", d, c.all, len(c.all))
	}
}

func TestP4_1_BehindCrash(t *testing.T) {
	d := with(t, "ab", "cd")
	d.Crash(1)
	if why := d.Cut(4); why != api.ErrArg {
		t.Errorf("Cut to what is gone: %d", why)
	}
	d.Sync()
	holds(t, "Sync behind Crash", d, "abc", 3)
	put(t, d, "x")
	holds(t, "Append behind Crash", d, "abcx", 3)
	d.Crash(0)
	holds(t, "Crash of that", d, "abc", 3)
}

// model is a disk told as plainly as the chapter tells it: beside each byte stands whether it is safe.
type model struct {
	bytes []byte
	safe  []bool
}

func (m *model) count() int {
	n := 0
	for _, s := range m.safe {
		if s {
			n++
		}
	}
	return n
}

func (m *model) sync() {
	for i := range m.safe {
		m.safe[i] = true
	}
}

func (m *model) cut(n int) api.Errno {
	if n < 0 || n > len(m.bytes) {
		return api.ErrArg
	}
	m.bytes, m.safe = m.bytes[:n:n], m.safe[:n:n]
	return api.OK
}

func (m *model) crash(keep int) {
	var left []byte
	for i, b := range m.bytes {
		if m.safe[i] {
			left = append(left, b)
		} else if keep > 0 {
			left = append(left, b)
			keep--
		}
	}
	m.bytes, m.safe = left, make([]bool, len(left))
	m.sync()
}

// pair is a disk and its model, to which the same is done.
type pair struct {
	d *disk.Disk
	m model
}

// do does one of the twelve steps to both. It answers how much of what was safe must be there behind it.
func (p *pair) do(t *testing.T, step, mark int) int {
	stays := p.m.count()
	switch {
	case step < 3:
		b := pattern(3 + mark)[mark : mark+step]
		put(t, p.d, string(b))
		p.m.bytes, p.m.safe = append(p.m.bytes, b...), append(p.m.safe, make([]bool, step)...)
	case step == 3:
		p.d.Sync()
		p.m.sync()
	case step < 8:
		n := step - 5
		got, want := p.d.Cut(n), p.m.cut(n)
		if got != want {
			t.Errorf("Cut(%d): %d, not %d", n, got, want)
		}
		if want == api.OK {
			stays = min(stays, n)
		}
	default:
		p.d.Crash(step - 9)
		p.m.crash(step - 9)
	}
	return stays
}

// Every row of five of twelve steps: Append of 0 to 2, Sync, Cut at -1 to 2, Crash keeping -1 to 2.
func TestP4_2_WhatIsSafeStays(t *testing.T) {
	const steps, long = 12, 5
	rows := 1
	for range long {
		rows *= steps
	}
	for row := range rows {
		p := pair{d: disk.New()}
		left := row
		for i := range long {
			before := p.d.Bytes()
			stays := p.do(t, left%steps, 10*i+1)
			after := p.d.Bytes()
			if len(after) < stays || !bytes.Equal(after[:stays], before[:stays]) {
				t.Fatalf("row %d, step %d: %v was safe up to %d, then %v", row, i, before, stays, after)
			}
			if p.d.Safe() < stays {
				t.Fatalf("row %d, step %d: %d were safe, then %d", row, i, stays, p.d.Safe())
			}
			if !bytes.Equal(after, p.m.bytes) || p.d.Safe() != p.m.count() {
				t.Fatalf("row %d, step %d: %v, %d safe; not %v, %d safe", row, i, after, p.d.Safe(), p.m.bytes, p.m.count())
			}
			left /= steps
		}
	}
}

// One long row: what was safe once comes through crash behind crash, whatever is torn off behind it.
func TestP4_2_ManyCrashes(t *testing.T) {
	d := disk.New()
	var want []byte
	for i := range 200 {
		b := pattern(300)[i : i+i%7]
		put(t, d, string(b))
		keep := i%5 - 1
		if i%3 == 0 {
			d.Sync()
			keep = len(b)
		}
		d.Crash(i%5 - 1)
		want = append(want, b[:min(max(keep, 0), len(b))]...)
		if got := d.Bytes(); !bytes.Equal(got, want) || d.Safe() != len(want) {
			t.Fatalf("crash %d: %v, %d safe; not %v", i, got, d.Safe(), want)
		}
	}
}

// filled answers n bytes with spare room behind them, all of it set to mark.
func filled(n int, mark byte) []byte {
	return bytes.Repeat([]byte{mark}, n+8)[:n]
}

func TestR2_WhatIsHandedIn(t *testing.T) {
	d := disk.New()
	b := filled(3, 'a')
	d.Append(b)
	if !bytes.Equal(b[:cap(b)], bytes.Repeat([]byte{'a'}, 11)) {
		t.Errorf("Append wrote to what it was given: %q", b[:cap(b)])
	}
	copy(b[:cap(b)], "zzzzzzzzzzz")
	holds(t, "written to behind Append", d, "aaa", 0)
	put(t, d, "bcd")
	d.Sync()
	d.Crash(0)
	d.Cut(1)
	put(t, d, "e")
	if string(b[:cap(b)]) != "zzzzzzzzzzz" {
		t.Errorf("later calls wrote to what Append was given: %q", b[:cap(b)])
	}
	holds(t, "at the end", d, "ae", 1)
	full := filled(api.MaxDisk+1, 'f')
	d.Append(full)
	if !bytes.Equal(full[:cap(full)], bytes.Repeat([]byte{'f'}, api.MaxDisk+9)) {
		t.Error("a refused Append wrote to what it was given")
	}
}

func TestR2_WhatIsAnswered(t *testing.T) {
	d := with(t, "ab", "cd")
	one, two := d.Bytes(), d.Bytes()
	spoil(one)
	if string(two) != "abcd" {
		t.Errorf("two answers share memory: %q", two)
	}
	holds(t, "written to behind Bytes", d, "abcd", 2)
	d.Cut(1)
	put(t, d, "xyz")
	d.Crash(1)
	if string(two) != "abcd" {
		t.Errorf("an answer turned with the disk: %q", two)
	}
	cut := d.Bytes()
	spoil(cut)
	put(t, d, "!")
	holds(t, "spare room of an answer", d, "ax!", 2)
}

// An answer that is cut short has room behind it: that is not the disk's own.
func TestR2_SpareRoomOfAnswers(t *testing.T) {
	d := with(t, "abcdef", "")
	d.Cut(2)
	b := d.Bytes()
	put(t, d, "xy")
	spoil(b)
	holds(t, "spare room of an answer", d, "abxy", 2)
	put(t, d, string(append(d.Bytes(), d.Bytes()...)))
	holds(t, "a disk's own bytes behind it", d, "abxyabxyabxy", 2)
}

// spoil writes to all of b, its spare room too.
func spoil(b []byte) {
	b = b[:cap(b)]
	for i := range b {
		b[i] = '?'
	}
}
