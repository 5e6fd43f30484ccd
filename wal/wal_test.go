package wal_test

import (
	"bytes"
	"encoding/binary"
	"hash/crc32"
	"math/rand"
	"slices"
	"strings"
	"testing"

	"conclave/api"
	"conclave/disk"
	"conclave/wal"
)

// framed answers a frame as the chapter says it, with any byte in the place of 0 and 1, apart from package wal.
func framed(kind byte, rec string) string {
	body := append([]byte{kind}, rec...)
	return raw(len(rec), crc32.ChecksumIEEE(body), string(body))
}

// raw answers what may be a frame: a length, a sum, and what follows, each of which may be wrong.
func raw(length int, crc uint32, body string) string {
	head := binary.BigEndian.AppendUint32(nil, uint32(length))
	return string(binary.BigEndian.AppendUint32(head, crc)) + body
}

// scanned looks whether Scan of s answers want and n.
func scanned(t *testing.T, what, s string, n int, want ...string) {
	t.Helper()
	got, end := wal.Scan([]byte(s))
	if !slices.Equal(got, want) || end != n {
		t.Errorf("%s: %.40q, %d bytes; not %.40q, %d", what, got, end, want, n)
	}
}

// open answers the Log of d.
func open(t *testing.T, d *disk.Disk) *wal.Log {
	t.Helper()
	l, why := wal.Open(d)
	if why != api.OK || l == nil {
		t.Fatalf("Open: %d", why)
	}
	return l
}

// diskOf answers a disk whose first bytes are safe, with loose ones behind them.
func diskOf(t *testing.T, safe, loose string) *disk.Disk {
	t.Helper()
	d := disk.New()
	if d.Append([]byte(safe)) != api.OK {
		t.Fatal("the disk is full")
	}
	d.Sync()
	if d.Append([]byte(loose)) != api.OK {
		t.Fatal("the disk is full")
	}
	return d
}

// holds looks whether l's records are want.
func holds(t *testing.T, what string, l *wal.Log, want ...string) {
	t.Helper()
	if got := l.All(); !slices.Equal(got, want) || l.Len() != len(want) {
		t.Errorf("%s: %.60q, Len %d; not %.60q", what, got, l.Len(), want)
	}
}

// stands looks whether d's bytes are all, the first safe of them safe.
func stands(t *testing.T, what string, d *disk.Disk, all string, safe int) {
	t.Helper()
	if got := d.Bytes(); string(got) != all || d.Safe() != safe {
		t.Errorf("%s: a disk of %d bytes, %d safe; not %d, %d safe", what, len(got), d.Safe(), len(all), safe)
	}
}

// does looks whether a call was not refused.
func does(t *testing.T, what string, why api.Errno) {
	t.Helper()
	if why != api.OK {
		t.Errorf("%s: %d", what, why)
	}
}

func TestP6_1_Run(t *testing.T) {
	a, b := wal.Frame(false, "a"), wal.Frame(false, "b")
	scanned(t, "the chapter's run", string(a)+string(b)+"x", 20, "a", "b")
}

func TestP6_3_Run(t *testing.T) {
	d := disk.New()
	l := open(t, d)
	does(t, "Append(a)", l.Append("a"))
	l.Sync()
	does(t, "Append(b)", l.Append("b"))
	d.Crash(3)
	holds(t, "the chapter's run", open(t, d), "a")
}

func TestP6_1_Examples(t *testing.T) {
	turned := []byte(framed(0, "abc"))
	turned[10] ^= 1
	scanned(t, "example 1", framed(0, "x")+string(turned)+framed(0, "y"), 10, "x")
	l := open(t, disk.New())
	does(t, "Append", l.Append("w"))
	does(t, "Reset", l.Reset("x"))
	does(t, "Append", l.Append("y"))
	holds(t, "example 2", l, "x", "y")
	scanned(t, "example 3", framed(0, ""), 9, "")
}

func TestP6_1_Frame(t *testing.T) {
	if got := wal.Frame(false, "ab"); !bytes.Equal(got, []byte{0, 0, 0, 2, 0x20, 0x1b, 0x83, 0x80, 0, 'a', 'b'}) {
		t.Errorf("Frame(false, ab): % x", got)
	}
	if got := wal.Frame(true, ""); !bytes.Equal(got, []byte{0, 0, 0, 0, 0xa5, 0x05, 0xdf, 0x1b, 1}) {
		t.Errorf("Frame(true, ): % x", got)
	}
	for _, rec := range []string{
		"", "a", "\x00", "\x01", "\xff", "ab", "\x00\x00\x00\x01", strings.Repeat("m", 255), strings.Repeat("n", 256),
		strings.Repeat("o", 257), strings.Repeat("p", api.MaxRecord), strings.Repeat("q", api.MaxRecord+1),
		strings.Repeat("\xff", 1<<17),
	} {
		if got := string(wal.Frame(false, rec)); got != framed(0, rec) {
			t.Errorf("Frame(false, %.10q), %d bytes: % .20x", rec, len(rec), got)
		}
		if got := string(wal.Frame(true, rec)); got != framed(1, rec) {
			t.Errorf("Frame(true, %.10q), %d bytes: % .20x", rec, len(rec), got)
		}
	}
}

func TestP6_1_ScanRows(t *testing.T) {
	if all, n := wal.Scan(nil); len(all) != 0 || n != 0 {
		t.Errorf("Scan(nil): %q, %d", all, n)
	}
	a, b, e := framed(0, "a"), framed(0, "bc"), framed(0, "")
	scanned(t, "no bytes", "", 0)
	scanned(t, "one frame", a, 10, "a")
	scanned(t, "two frames", a+b, 21, "a", "bc")
	scanned(t, "the same again", a+a+a, 30, "a", "a", "a")
	scanned(t, "empty ones", e+a+e+e+b+e, 9+10+9+9+11+9, "", "a", "", "", "bc", "")
	scanned(t, "a frame in a frame", framed(0, a+b)+e, 9+21+9, a+b, "")
	every := make([]byte, 256)
	for i := range every {
		every[i] = byte(i)
	}
	scanned(t, "every byte", framed(0, string(every))+a, 9+256+10, string(every), "a")
}

func TestP6_1_ScanOfFirst(t *testing.T) {
	a, b, y, z, e := framed(0, "a"), framed(0, "b"), framed(1, "y"), framed(1, "z"), framed(1, "")
	scanned(t, "alone", z, 10, "z")
	scanned(t, "at the beginning", z+a+b, 30, "z", "a", "b")
	scanned(t, "in the midst", a+z+b, 30, "z", "b")
	scanned(t, "at the end", a+b+z, 30, "z")
	scanned(t, "two", a+y+b+z+a, 50, "z", "a")
	scanned(t, "two in a row", a+y+z, 30, "z")
	scanned(t, "an empty one", a+e+b, 29, "", "b")
	scanned(t, "one that is cut off", a+b+z[:9], 20, "a", "b")
	scanned(t, "one whose sum is wrong", a+b+z[:9]+"y"+y, 20, "a", "b")
	scanned(t, "behind what is no frame", a+"?"+z, 10, "a")
}

func TestP6_1_ScanCutOff(t *testing.T) {
	frames := []string{framed(0, "ab"), framed(0, ""), framed(1, "c"), framed(0, "defg"), framed(0, "")}
	records := [][]string{nil, {"ab"}, {"ab", ""}, {"c"}, {"c", "defg"}, {"c", "defg", ""}}
	all := strings.Join(frames, "")
	whole, end := 0, 0
	for n := range len(all) + 1 {
		if whole < len(frames) && n == end+len(frames[whole]) {
			end = n
			whole++
		}
		scanned(t, "cut off", all[:n], end, records[whole]...)
	}
	if whole != len(frames) {
		t.Errorf("%d frames were whole", whole)
	}
}

func TestP6_1_ScanTurned(t *testing.T) {
	a, b, c := framed(0, "a"), framed(0, "bcd"), framed(0, "e")
	for k := range b {
		for bit := range 8 {
			turned := []byte(b)
			turned[k] ^= 1 << bit
			scanned(t, "a turned bit within", a+string(turned)+c, 10, "a")
			scanned(t, "a turned bit at the beginning", string(turned)+c, 0)
			scanned(t, "a turned bit at the end", a+c+string(turned), 20, "a", "e")
		}
	}
}

func TestP6_1_ScanOtherByte(t *testing.T) {
	for kind := 2; kind < 256; kind++ {
		odd, empty := framed(byte(kind), "q"), framed(byte(kind), "")
		scanned(t, "another byte", odd, 0)
		scanned(t, "another byte behind one", framed(0, "a")+odd+framed(0, "b"), 10, "a")
		scanned(t, "another byte of an empty record", framed(1, "a")+empty+framed(1, "b"), 10, "a")
	}
	zero, one := framed(0, "q"), framed(1, "q")
	scanned(t, "the sum of the other byte", zero[:8]+one[8:], 0)
	scanned(t, "the sum of the other byte", one[:8]+zero[8:], 0)
}

func TestP6_1_ScanSum(t *testing.T) {
	for _, rec := range []string{"", "a", "abc", strings.Repeat("x", api.MaxRecord)} {
		for kind := range byte(2) {
			body := string([]byte{kind}) + rec
			crc := crc32.ChecksumIEEE([]byte(body))
			scanned(t, "the right sum", raw(len(rec), crc, body), 9+len(rec), rec)
			for _, wrong := range []uint32{crc + 1, crc - 1, ^crc, 0, crc ^ 1<<31, crc32.ChecksumIEEE([]byte(rec))} {
				scanned(t, "a wrong sum", raw(len(rec), wrong, body)+framed(0, "b"), 0)
			}
			whole := raw(len(rec), 0, body)
			scanned(t, "the sum over the length too", raw(len(rec), crc32.ChecksumIEEE([]byte(whole[:4]+body)), body), 0)
		}
	}
}

func TestP6_1_ScanLength(t *testing.T) {
	most := strings.Repeat("x", api.MaxRecord)
	a := framed(0, "a")
	scanned(t, "MaxRecord", framed(0, most)+a, 9+api.MaxRecord+10, most, "a")
	scanned(t, "MaxRecord, first", a+framed(1, most)+a, 10+9+api.MaxRecord+10, most, "a")
	scanned(t, "MaxRecord - 1", framed(0, most[1:])+a, 8+api.MaxRecord+10, most[1:], "a")
	scanned(t, "MaxRecord + 1", a+framed(0, most+"x")+a, 10, "a")
	scanned(t, "MaxRecord + 1, first", a+framed(1, most+"x")+a, 10, "a")
	scanned(t, "far beyond", a+framed(0, strings.Repeat("x", 1<<16+1))+a, 10, "a")
	body := "\x00a"
	crc := crc32.ChecksumIEEE([]byte(body))
	for _, length := range []int{2, 3, 1 << 8, 1<<8 + 1, 1<<24 + 1, 1<<31 - 1, 1 << 31, 1<<31 + 1, 1<<32 - 2, 1<<32 - 1} {
		scanned(t, "a length beyond the end", raw(length, crc, body), 0)
		scanned(t, "a length beyond the end behind one", a+raw(length, crc, body), 10, "a")
		scanned(t, "such a length, with frames behind", a+raw(length, crc, body)+a+a, 10, "a")
	}
	scanned(t, "a length that is too short", raw(0, crc, body)+a, 0)
	scanned(t, "bytes of all ones", strings.Repeat("\xff", 100), 0)
	scanned(t, "bytes of zero", strings.Repeat("\x00", 100), 0)
}

func TestP6_1_ScanTail(t *testing.T) {
	a, b := framed(0, "a"), framed(1, "bc")
	for _, tail := range []string{"x", "\x00", "rubbish", "longer rubbish than a head", strings.Repeat("\x00", 9), a[1:], a[:9], "?" + a} {
		scanned(t, "a tail", a+a+tail, 20, "a", "a")
		scanned(t, "a tail behind a first one", a+b+tail, 21, "bc")
		scanned(t, "a tail alone", tail, 0)
	}
}

// model is what Scan must answer, read in another way than package wal does.
func model(b []byte) ([]string, int) {
	var all []string
	at := 0
	for len(b)-at >= 9 {
		length, crc, body := binary.BigEndian.Uint32(b[at:]), binary.BigEndian.Uint32(b[at+4:]), b[at+8:]
		if length > 4000 || int(length)+1 > len(body) || body[0] > 1 || crc32.ChecksumIEEE(body[:length+1]) != crc {
			break
		}
		if body[0] == 1 {
			all = all[:0]
		}
		all = append(all, string(body[1:length+1]))
		at += 9 + int(length)
	}
	return all, at
}

func TestP6_1_ScanOfSpoiltRows(t *testing.T) {
	r := rand.New(rand.NewSource(6))
	for range 20000 {
		var b []byte
		for range r.Intn(6) {
			b = append(b, framed(byte(r.Intn(16)/5), strings.Repeat("r", r.Intn(5)))...)
		}
		for range r.Intn(3) {
			if len(b) > 0 {
				b[r.Intn(len(b))] = byte(r.Intn(256))
			}
		}
		b = b[:len(b)-r.Intn(len(b)+1)*r.Intn(2)]
		got, n := wal.Scan(b)
		if want, end := model(b); !slices.Equal(got, want) || n != end {
			t.Fatalf("Scan(% x): %q, %d; not %q, %d", b, got, n, want, end)
		}
	}
}

func TestP6_1_ScanOfAFullDisk(t *testing.T) {
	b := bytes.Repeat([]byte(framed(0, "")), api.MaxDisk/9)
	b = append(b, make([]byte, api.MaxDisk-len(b))...)
	all, n := wal.Scan(b)
	if len(all) != api.MaxDisk/9 || n != api.MaxDisk/9*9 {
		t.Errorf("a full disk: %d records, %d bytes", len(all), n)
	}
}

func TestP6_2_OpenNil(t *testing.T) {
	if l, why := wal.Open(nil); l != nil || why != api.ErrArg {
		t.Errorf("Open(nil): %v, %d", l, why)
	}
}

func TestP6_2_Open(t *testing.T) {
	a, b, z := framed(0, "a"), framed(0, ""), framed(1, "z")
	d := disk.New()
	holds(t, "a disk without bytes", open(t, d))
	stands(t, "a disk without bytes", d, "", 0)
	d = diskOf(t, a+b, "")
	holds(t, "frames", open(t, d), "a", "")
	stands(t, "frames", d, a+b, len(a+b))
	d = diskOf(t, a, b)
	holds(t, "frames that are not safe", open(t, d), "a", "")
	stands(t, "frames that are not safe", d, a+b, len(a))
	d = diskOf(t, a+z, b)
	holds(t, "a first one", open(t, d), "z", "")
	stands(t, "a first one", d, a+z+b, len(a+z))
}

func TestP6_2_OpenCutsAway(t *testing.T) {
	a, z := framed(0, "a"), framed(1, "z")
	for _, tail := range []string{"x", "rubbish", a[:9], a[1:], framed(2, "q"), strings.Repeat("\x00", 30), "?" + a, framed(0, strings.Repeat("x", api.MaxRecord+1))} {
		d := diskOf(t, tail, "")
		holds(t, "a tail alone", open(t, d))
		stands(t, "a tail alone", d, "", 0)
		d = diskOf(t, a+z, tail)
		l := open(t, d)
		holds(t, "a loose tail", l, "z")
		stands(t, "a loose tail", d, a+z, len(a+z))
		does(t, "Append behind what was cut", l.Append("a"))
		holds(t, "a loose tail and one more", l, "z", "a")
		stands(t, "a loose tail and one more", d, a+z+a, len(a+z))
		holds(t, "opened again", open(t, d), "z", "a")
		d = diskOf(t, a+tail, "more")
		holds(t, "a safe tail", open(t, d), "a")
		stands(t, "a safe tail", d, a, len(a))
		d = diskOf(t, "", a+a+tail)
		holds(t, "nothing safe", open(t, d), "a", "a")
		stands(t, "nothing safe", d, a+a, 0)
	}
}

func TestP6_2_AppendAndReset(t *testing.T) {
	d := disk.New()
	l := open(t, d)
	bytes := ""
	does(t, "Append(a)", l.Append("a"))
	bytes += framed(0, "a")
	holds(t, "one", l, "a")
	stands(t, "one", d, bytes, 0)
	does(t, "Append()", l.Append(""))
	bytes += framed(0, "")
	holds(t, "an empty one", l, "a", "")
	stands(t, "an empty one", d, bytes, 0)
	does(t, "Append(a)", l.Append("a"))
	bytes += framed(0, "a")
	holds(t, "the same again", l, "a", "", "a")
	does(t, "Reset(b)", l.Reset("b"))
	bytes += framed(1, "b")
	holds(t, "Reset", l, "b")
	stands(t, "Reset", d, bytes, 0)
	does(t, "Append(c)", l.Append("c\x00"))
	bytes += framed(0, "c\x00")
	holds(t, "behind a Reset", l, "b", "c\x00")
	does(t, "Reset()", l.Reset(""))
	bytes += framed(1, "")
	holds(t, "an empty Reset", l, "")
	does(t, "Reset()", l.Reset(""))
	bytes += framed(1, "")
	holds(t, "two Resets", l, "")
	stands(t, "two Resets", d, bytes, 0)
	holds(t, "opened again", open(t, d), "")
}

func TestP6_2_ResetOfNothing(t *testing.T) {
	d := disk.New()
	l := open(t, d)
	does(t, "Reset", l.Reset("a"))
	holds(t, "Reset of a new one", l, "a")
	stands(t, "Reset of a new one", d, framed(1, "a"), 0)
}

func TestP6_2_MaxRecord(t *testing.T) {
	most := strings.Repeat("x", api.MaxRecord)
	d := disk.New()
	l := open(t, d)
	does(t, "Append", l.Append("a"))
	l.Sync()
	for _, long := range []string{most + "x", most + most, strings.Repeat("x", api.MaxDisk+1)} {
		if why := l.Append(long); why != api.ErrLong {
			t.Errorf("Append of %d bytes: %d", len(long), why)
		}
		if why := l.Reset(long); why != api.ErrLong {
			t.Errorf("Reset of %d bytes: %d", len(long), why)
		}
		holds(t, "ErrLong", l, "a")
		stands(t, "ErrLong", d, framed(0, "a"), 10)
	}
	does(t, "Append of MaxRecord", l.Append(most))
	holds(t, "Append of MaxRecord", l, "a", most)
	stands(t, "Append of MaxRecord", d, framed(0, "a")+framed(0, most), 10)
	does(t, "Reset of MaxRecord", l.Reset(most))
	holds(t, "Reset of MaxRecord", l, most)
	stands(t, "Reset of MaxRecord", d, framed(0, "a")+framed(0, most)+framed(1, most), 10)
	holds(t, "opened again", open(t, d), most)
}

// full answers frames that leave just so many bytes of a disk, and how many there are.
func full(left int) (string, int) {
	big := framed(0, strings.Repeat("f", api.MaxRecord))
	n := api.MaxDisk/len(big) - 1
	all := strings.Repeat(big, n)
	rest := api.MaxDisk - left - len(all)
	half := rest/2 - 9
	return all + framed(0, strings.Repeat("g", half)) + framed(0, strings.Repeat("h", rest-half-18)), n + 2
}

func TestP6_2_ErrFull(t *testing.T) {
	for _, rec := range []string{"", "a", "abc", strings.Repeat("x", api.MaxRecord)} {
		for _, reset := range []bool{false, true} {
			need := 9 + len(rec)
			all, n := full(need - 1)
			d := diskOf(t, all, "")
			l := open(t, d)
			before := l.All()
			if len(before) != n {
				t.Fatalf("%d records of %d", len(before), n)
			}
			if why := putRecord(l, reset, rec); why != api.ErrFull {
				t.Errorf("a byte too little for %d, Reset %t: %d", need, reset, why)
			}
			holds(t, "ErrFull", l, before...)
			stands(t, "ErrFull", d, all, len(all))
			all, _ = full(need)
			d = diskOf(t, all, "")
			l = open(t, d)
			want, kind := append(l.All(), rec), byte(0)
			if reset {
				want, kind = []string{rec}, 1
			}
			does(t, "just room enough", putRecord(l, reset, rec))
			holds(t, "just room enough", l, want...)
			stands(t, "just room enough", d, all+framed(kind, rec), len(all))
			holds(t, "just room enough, opened again", open(t, d), want...)
			if l.Append("") != api.ErrFull || l.Reset("") != api.ErrFull {
				t.Error("a full disk took an empty record")
			}
			holds(t, "a full disk", l, want...)
		}
	}
}

func putRecord(l *wal.Log, reset bool, rec string) api.Errno {
	if reset {
		return l.Reset(rec)
	}
	return l.Append(rec)
}

func TestP6_2_ErrLongAheadOfErrFull(t *testing.T) {
	all, _ := full(5)
	d := diskOf(t, all, "")
	l := open(t, d)
	long := strings.Repeat("x", api.MaxRecord+1)
	if l.Append(long) != api.ErrLong || l.Reset(long) != api.ErrLong {
		t.Error("a record that is too long, on a full disk")
	}
	stands(t, "both refusals", d, all, len(all))
}

func TestP6_2_Sync(t *testing.T) {
	d := disk.New()
	l := open(t, d)
	l.Sync()
	stands(t, "Sync of nothing", d, "", 0)
	does(t, "Append", l.Append("a"))
	stands(t, "Append is not safe", d, framed(0, "a"), 0)
	l.Sync()
	stands(t, "Sync", d, framed(0, "a"), 10)
	does(t, "Reset", l.Reset("b"))
	stands(t, "Reset is not safe", d, framed(0, "a")+framed(1, "b"), 10)
	holds(t, "ahead of a Sync", l, "b")
	l.Sync()
	stands(t, "Sync of a Reset", d, framed(0, "a")+framed(1, "b"), 20)
	holds(t, "behind a Sync", l, "b")
}

func TestP6_2_LogsAreApart(t *testing.T) {
	d, e := disk.New(), disk.New()
	l, m := open(t, d), open(t, e)
	does(t, "Append", l.Append("a"))
	does(t, "Append", m.Append("b"))
	does(t, "Append", m.Append("c"))
	l.Sync()
	holds(t, "one", l, "a")
	holds(t, "another", m, "b", "c")
	stands(t, "another", e, framed(0, "b")+framed(0, "c"), 0)
}

// book holds what the Log held behind each call that wrote, from the last Sync on, and where its frames ended.
type book struct {
	states [][]string
	ends   []int
}

func (b *book) note(l *wal.Log, d *disk.Disk) {
	b.states = append(b.states, l.All())
	b.ends = append(b.ends, len(d.Bytes()))
}

func (b *book) forget() {
	b.states, b.ends = b.states[len(b.states)-1:], b.ends[len(b.ends)-1:]
}

// step does the step s on l, on d and in b.
func step(t *testing.T, l *wal.Log, d *disk.Disk, b *book, s byte) {
	t.Helper()
	last := b.states[len(b.states)-1]
	switch s {
	case 'a':
		does(t, "Append", l.Append("app"))
		holds(t, "Append", l, append(slices.Clone(last), "app")...)
	case 'e':
		does(t, "Append", l.Append(""))
		holds(t, "Append", l, append(slices.Clone(last), "")...)
	case 'r':
		does(t, "Reset", l.Reset("r"))
		holds(t, "Reset", l, "r")
	case 's':
		l.Sync()
		holds(t, "Sync", l, last...)
		b.forget()
		return
	}
	b.note(l, d)
}

// crash tears d so that keep loose bytes stay, opens it, and looks whether the Log holds what it held when the
// last whole frame of these was written.
func crash(t *testing.T, what string, d *disk.Disk, b *book, keep int) *wal.Log {
	t.Helper()
	left := min(d.Safe()+max(keep, 0), len(d.Bytes()))
	d.Crash(keep)
	l := open(t, d)
	k := len(b.ends) - 1
	for b.ends[k] > left {
		k--
	}
	holds(t, what, l, b.states[k]...)
	if len(d.Bytes()) != b.ends[k] || d.Safe() != b.ends[k] {
		t.Errorf("%s, %d kept: %d bytes, %d safe; not %d", what, keep, len(d.Bytes()), d.Safe(), b.ends[k])
	}
	b.states, b.ends = b.states[k:k+1], b.ends[k:k+1]
	return l
}

func TestP6_3_EveryCrash(t *testing.T) {
	const steps, length = "aers", 5
	for row := range 1 << (2 * length) {
		for keep := -1; ; keep++ {
			d := disk.New()
			l, b := open(t, d), &book{}
			b.note(l, d)
			name := ""
			for k := range length {
				s := steps[row>>(2*k)&3]
				name += string(rune(s))
				step(t, l, d, b, s)
			}
			done := keep > len(d.Bytes())-d.Safe()
			l = crash(t, name, d, b, keep)
			step(t, l, d, b, 'a')
			step(t, l, d, b, 's')
			step(t, l, d, b, 'r')
			crash(t, name+", once more", d, b, 9)
			if t.Failed() {
				t.Fatalf("row %s, %d kept", name, keep)
			}
			if done {
				break
			}
		}
	}
}

func TestP6_3_LongRows(t *testing.T) {
	r := rand.New(rand.NewSource(3))
	for row := range 300 {
		d := disk.New()
		l, b := open(t, d), &book{}
		b.note(l, d)
		for range 60 {
			s := "aaaeeerss!"[r.Intn(10)]
			if s == '!' {
				l = crash(t, "a crash", d, b, r.Intn(60)-5)
				continue
			}
			step(t, l, d, b, s)
		}
		if t.Failed() {
			t.Fatalf("row %d", row)
		}
	}
}

func TestP6_3_CrashBehindOpen(t *testing.T) {
	a, b := framed(0, "a"), framed(0, "b")
	d := diskOf(t, a, b+"rubbish")
	l := open(t, d)
	holds(t, "opened", l, "a", "b")
	d.Crash(0)
	holds(t, "what was loose is gone", open(t, d), "a")
	d = diskOf(t, a, b+"rubbish")
	l = open(t, d)
	l.Sync()
	d.Crash(0)
	holds(t, "what was synced stays", open(t, d), "a", "b")
}

func TestP6_4_WhatIsWrittenIsScanned(t *testing.T) {
	records := []string{"", "a", "", "", "\x00\xff", framed(1, "z"), strings.Repeat("m", api.MaxRecord), "", "e"}
	for from := range records {
		for to := from; to <= len(records); to++ {
			var plain, begun []byte
			for k, rec := range records[from:to] {
				plain = append(plain, wal.Frame(false, rec)...)
				begun = append(begun, wal.Frame(k == 0, rec)...)
			}
			scanned(t, "a row", string(plain), len(plain), records[from:to]...)
			scanned(t, "a row that is begun anew", string(begun), len(begun), records[from:to]...)
		}
	}
}

func TestP6_4_LongRows(t *testing.T) {
	r := rand.New(rand.NewSource(4))
	for range 200 {
		var b []byte
		var want []string
		for range r.Intn(50) {
			rec := make([]byte, r.Intn(2)*r.Intn(300))
			r.Read(rec)
			first := r.Intn(12) == 0
			if first {
				want = nil
			}
			want = append(want, string(rec))
			b = append(b, wal.Frame(first, string(rec))...)
		}
		scanned(t, "a long row", string(b), len(b), want...)
	}
}

func TestR2_All(t *testing.T) {
	l := open(t, diskOf(t, framed(0, "a")+framed(0, "b"), ""))
	does(t, "Append", l.Append("c"))
	all, again := l.All(), l.All()
	all[0], all[2] = "spoilt", "spoilt"
	_ = append(all[:1], "spoilt", "spoilt", "spoilt", "spoilt")
	holds(t, "All was written to", l, "a", "b", "c")
	if !slices.Equal(again, []string{"a", "b", "c"}) {
		t.Errorf("two answers of All share memory: %q", again)
	}
	spare := l.All()
	spare = append(spare[:len(spare):cap(spare)], "spare")
	does(t, "Append", l.Append("d"))
	does(t, "Append", l.Append("e"))
	holds(t, "room behind All was written to", l, "a", "b", "c", "d", "e")
	if spare[3] != "spare" {
		t.Errorf("the Log wrote behind what it handed out: %q", spare)
	}
	early := l.All()
	does(t, "Reset", l.Reset("z"))
	if !slices.Equal(early, []string{"a", "b", "c", "d", "e"}) {
		t.Errorf("Reset turned what All had answered: %q", early)
	}
}

func TestR2_Scan(t *testing.T) {
	s := framed(0, "a") + framed(1, "b") + framed(0, "c") + "xyz"
	room := []byte(s + "room behind")
	all, _ := wal.Scan(room[:len(s)])
	if string(room) != s+"room behind" {
		t.Errorf("Scan turned its bytes: %q", room)
	}
	clear(room)
	if !slices.Equal(all, []string{"b", "c"}) {
		t.Errorf("Scan keeps its bytes: %q", all)
	}
	whole := []byte(framed(0, "a") + framed(0, "b"))
	if all, n := wal.Scan(whole[:10:len(whole)]); len(all) != 1 || n != 10 {
		t.Errorf("Scan read behind its bytes: %q, %d", all, n)
	}
	if all, n := wal.Scan(whole[:19]); len(all) != 1 || n != 10 {
		t.Errorf("Scan read behind its bytes: %q, %d", all, n)
	}
	all, _ = wal.Scan(whole)
	again, _ := wal.Scan(whole)
	all[0] = "spoilt"
	if again[0] != "a" {
		t.Error("two answers of Scan share memory")
	}
}

func TestR2_Frame(t *testing.T) {
	a, b := wal.Frame(false, "ab"), wal.Frame(false, "ab")
	clear(a[:cap(a)])
	if string(b) != framed(0, "ab") || string(wal.Frame(false, "ab")) != framed(0, "ab") {
		t.Error("two frames share memory")
	}
}

func TestR2_ALogStandsOnItsDisk(t *testing.T) {
	d := diskOf(t, framed(0, "a"), "")
	l := open(t, d)
	does(t, "Append", l.Append("b"))
	stands(t, "the disk that was handed in", d, framed(0, "a")+framed(0, "b"), 10)
	clear(d.Bytes())
	holds(t, "the disk's answer was written to", l, "a", "b")
}
