package dedup_test

import (
	"bytes"
	"encoding/binary"
	"fmt"
	"math"
	"math/rand"
	"slices"
	"strings"
	"testing"

	"conclave/api"
	"conclave/dedup"
)

// load answers the table that was saved as b.
func load(t *testing.T, what string, b []byte) *dedup.Table {
	t.Helper()
	x, why := dedup.Load(b)
	if x == nil || why != api.OK {
		t.Fatalf("%s: Load: %v, %d", what, x != nil, why)
	}
	return x
}

// unloaded looks whether b is refused.
func unloaded(t *testing.T, what string, b []byte) {
	t.Helper()
	if x, why := dedup.Load(b); x != nil || why != api.ErrForm {
		t.Errorf("%s: Load: %v, %d; not nil, %d", what, x != nil, why, api.ErrForm)
	}
}

// row is what may lie in a table.
type row struct {
	client string
	id     int
	reply  string
}

// bytesOf answers what may be a table's bytes, written apart from package dedup: two numbers, and rows, each of which
// may be wrong.
func bytesOf(most, count int, rows ...row) []byte {
	b := binary.BigEndian.AppendUint32(nil, uint32(most))
	b = binary.BigEndian.AppendUint32(b, uint32(count))
	for _, r := range rows {
		b = putText(b, r.client)
		b = binary.BigEndian.AppendUint64(b, uint64(r.id))
		b = putText(b, r.reply)
	}
	return b
}

func putText(b []byte, s string) []byte {
	return append(binary.BigEndian.AppendUint32(b, uint32(len(s))), s...)
}

// with answers a table for most clients to which rows were Done.
func with(t *testing.T, most int, rows ...row) *dedup.Table {
	t.Helper()
	x := table(t, most)
	for _, r := range rows {
		done(t, "a row", x, r.client, r.id, r.reply)
	}
	return x
}

// kinds answers tables of many kinds.
func kinds(t *testing.T) []*dedup.Table {
	t.Helper()
	again := filled(t, 5, 5)
	done(t, "again", again, "c2", 7, "new")
	var signs []row
	for k, id := range ids() {
		signs = append(signs, row{name(k), id, fmt.Sprint(id)})
	}
	odd := []row{{"", 0, ""}, {"\x00", -1, "\xff"}, {"\xff\xfe", 1, "\x00\x00"}, {"é", math.MinInt, "ß"}, {"a", math.MaxInt, "\x00\x00\x00\x02ab"}}
	long := []row{{strings.Repeat("c", 70000), 1, strings.Repeat("\x00", 1<<17)}, {"", 2, strings.Repeat("r", 300)}}
	return []*dedup.Table{
		table(t, 1), table(t, 2), table(t, 64), // empty
		filled(t, 1, 1), filled(t, 3, 3), filled(t, 64, 64), // full
		filled(t, 1, 2), filled(t, 3, 8), filled(t, 64, 65), filled(t, 64, 200), // some are forgotten
		filled(t, 3, 1), filled(t, 64, 5), filled(t, 64, 63), // room is left
		again, with(t, 64, signs...), with(t, 17, signs...), with(t, 5, odd...), with(t, 64, odd...), with(t, 2, long...),
	}
}

// alike looks whether x and y answer Clients and Ask alike, and are saved as the same bytes.
func alike(t *testing.T, what string, x, y *dedup.Table) {
	t.Helper()
	clients(t, what, x, y.Clients()...)
	all := append(y.Clients(), "", "none", "c0", "c1", "c199")
	for _, client := range all {
		for _, id := range append(ids(), 3, 4, 5, 62, 63, 64, 65, 199) {
			kind, reply := y.Ask(client, id)
			asks(t, what, x, client, id, kind, reply)
		}
	}
	if !bytes.Equal(x.Save(), y.Save()) {
		t.Errorf("%s: other bytes when it is saved", what)
	}
}

func TestP10_2_LoadOfSave(t *testing.T) {
	for k, x := range kinds(t) {
		b := x.Save()
		y := load(t, fmt.Sprint("table ", k), b)
		alike(t, fmt.Sprint("table ", k), y, x)
		if !bytes.Equal(y.Save(), b) || !bytes.Equal(x.Save(), b) {
			t.Errorf("table %d: other bytes when it is saved again", k)
		}
	}
}

func TestP10_2_LoadForgetsTheSameNext(t *testing.T) {
	for k, x := range kinds(t) {
		what := fmt.Sprint("table ", k)
		y := load(t, what, x.Save())
		for more := range 66 {
			client := fmt.Sprint("more", more)
			done(t, what, x, client, more, "m")
			done(t, what, y, client, more, "m")
			clients(t, what, y, x.Clients()...)
		}
		alike(t, what, y, x)
	}
}

func TestP10_2_LoadedRefusesTheSame(t *testing.T) {
	x := load(t, "a table", filled(t, 4, 6).Save())
	for k := 2; k < 6; k++ {
		refuses(t, "Again", x, name(k), k, "z")
		refuses(t, "Past", x, name(k), k-1, "z")
	}
	done(t, "the midst again", x, "c3", 4, "z")
	clients(t, "the midst again", x, "c2", "c4", "c5", "c3")
}

func TestP10_2_SaveGoesOn(t *testing.T) {
	x := filled(t, 2, 2)
	early := x.Save()
	done(t, "one more", x, "c2", 2, "")
	clients(t, "what was saved", load(t, "early", early), "c0", "c1")
	clients(t, "what went on", load(t, "late", x.Save()), "c1", "c2")
}

func TestP10_2_SaveTellsTablesApart(t *testing.T) {
	a, b := row{"a", 1, "x"}, row{"b", 1, "x"}
	seen := map[string]string{}
	for what, x := range map[string]*dedup.Table{
		"empty": table(t, 2), "empty, for 3": table(t, 3),
		"one": with(t, 2, a), "one, for 3": with(t, 3, a), "another": with(t, 2, b),
		"both": with(t, 2, a, b), "both the other way": with(t, 2, b, a),
		"another id": with(t, 2, row{"a", 2, "x"}), "another reply": with(t, 2, row{"a", 1, "y"}),
		"no reply": with(t, 2, row{"a", 1, ""}), "an id far above": with(t, 2, row{"a", 1<<32 + 1, "x"}),
	} {
		s := string(x.Save())
		if other, ok := seen[s]; ok {
			t.Errorf("%s and %s are saved as the same bytes", what, other)
		}
		seen[s] = what
	}
}

// The ways to a table are not saved with it.
func TestP10_2_SaveOfTheSameIsTheSame(t *testing.T) {
	a, b, c := row{"a", 1, "x"}, row{"b", -2, "y"}, row{"c", 3, ""}
	want := with(t, 2, a, b).Save()
	for what, x := range map[string]*dedup.Table{
		"one forgotten":   with(t, 2, c, a, b),
		"one Done before": with(t, 2, row{"b", -3, "old"}, a, b),
		"all Done before": with(t, 2, row{"a", 0, "old"}, row{"b", -4, "old"}, c, a, b),
	} {
		if got := x.Save(); !bytes.Equal(got, want) {
			t.Errorf("%s: % x, not % x", what, got, want)
		}
	}
}

func TestP10_2_LoadOfOtherBytes(t *testing.T) {
	unloaded(t, "nil", nil)
	unloaded(t, "no bytes", []byte{})
	for n := 1; n < 200; n++ {
		unloaded(t, "bytes of all ones", bytes.Repeat([]byte{0xff}, n))
		unloaded(t, "bytes of zero", make([]byte, n))
	}
	unloaded(t, "a text", []byte("a table that remembers nothing"))
}

func TestP10_2_LoadCutOff(t *testing.T) {
	for k, x := range kinds(t) {
		b := x.Save()
		for n := 0; n < len(b); n += 1 + len(b)/3000 {
			unloaded(t, fmt.Sprintf("table %d, %d of %d bytes", k, n, len(b)), b[:n])
		}
		unloaded(t, fmt.Sprintf("table %d, all but one", k), b[:len(b)-1])
	}
}

func TestP10_2_LoadWithBytesBehind(t *testing.T) {
	for k, x := range kinds(t) {
		b := x.Save()
		for _, tail := range []string{"\x00", "\x01", "\xff", "tail", string(b)} {
			unloaded(t, fmt.Sprintf("table %d with %d bytes behind", k, len(tail)), append(slices.Clone(b), tail...))
		}
	}
}

// either looks whether b is refused, or loaded as a table that calls lead to and that is saved as b. It tells which.
func either(t *testing.T, what string, b []byte) bool {
	t.Helper()
	x, why := dedup.Load(b)
	if why != api.OK || x == nil {
		if x != nil || why != api.ErrForm {
			t.Errorf("%s: %v, %d", what, x != nil, why)
		}
		return false
	}
	if !bytes.Equal(x.Save(), b) {
		t.Errorf("%s: Load took bytes that it does not save", what)
	}
	all := x.Clients()
	if sorted := slices.Sorted(slices.Values(all)); len(slices.Compact(sorted)) != len(all) || len(all) > 64 {
		t.Errorf("%s: Load took clients that no table has: %q", what, all)
	}
	return true
}

func TestP10_2_LoadTurned(t *testing.T) {
	taken := 0
	for k, x := range []*dedup.Table{table(t, 1), table(t, 64), filled(t, 1, 1), filled(t, 3, 4), with(t, 64, row{"", 0, ""}, row{"abc", -1, "defg"}, row{"a", math.MaxInt, "\x00"})} {
		b := x.Save()
		for at := range b {
			for to := range 256 {
				turned := slices.Clone(b)
				turned[at] = byte(to)
				if either(t, fmt.Sprintf("table %d, byte %d turned to %d", k, at, to), turned) {
					taken++
				}
			}
		}
	}
	if taken == 0 {
		t.Error("no byte could be turned: not even that of a reply")
	}
}

func TestP10_2_LoadOfWrongRows(t *testing.T) {
	x, y, z := row{"x", 2, "rx"}, row{"y", 1, ""}, row{"", -3, "rz"}
	if got := with(t, 3, x, y, z).Save(); !bytes.Equal(got, bytesOf(3, 3, x, y, z)) {
		t.Fatalf("another writing than these tests have: % x", got)
	}
	for _, c := range []struct {
		what        string
		most, count int
		rows        []row
	}{
		{"for none", 0, 0, nil},
		{"for none, with one", 0, 1, []row{x}},
		{"for 65", 65, 0, nil},
		{"for 65, with one", 65, 1, []row{x}},
		{"for 256 and one", 257, 0, nil},
		{"for as many as there may be", 1<<32 - 1, 0, nil},
		{"two, for one", 1, 2, []row{x, y}},
		{"three, for two", 2, 3, []row{x, y, z}},
		{"one client twice", 3, 2, []row{x, x}},
		{"one client twice, with rising ids", 3, 2, []row{x, {"x", 3, "r"}}},
		{"one client twice, with falling ids", 3, 2, []row{x, {"x", 1, "r"}}},
		{"one client twice, with another between", 3, 3, []row{x, y, {"x", 3, "r"}}},
		{"the empty client twice", 3, 2, []row{z, {"", 9, ""}}},
		{"one fewer than it says", 3, 3, []row{x, y}},
		{"one more than it says", 3, 1, []row{x, y}},
		{"none, though it says so", 3, 1, nil},
		{"one, though it says none", 3, 0, []row{x}},
		{"as many as there may be", 3, 1<<32 - 1, []row{x}},
	} {
		unloaded(t, c.what, bytesOf(c.most, c.count, c.rows...))
	}
}

func TestP10_2_LoadOfRightRows(t *testing.T) {
	for most := 1; most <= 64; most++ {
		for n := 0; n <= most; n++ {
			var rows []row
			for k := range n {
				rows = append(rows, row{name(k), k, "r" + name(k)})
			}
			x := load(t, fmt.Sprintf("%d for %d", n, most), bytesOf(most, n, rows...))
			clients(t, fmt.Sprintf("%d for %d", n, most), x, names(0, n)...)
		}
		var rows []row
		for k := range most + 1 {
			rows = append(rows, row{name(k), k, ""})
		}
		unloaded(t, fmt.Sprint("one more than ", most), bytesOf(most, most+1, rows...))
	}
}

func TestP10_2_LoadOfAWrongLength(t *testing.T) {
	b := bytesOf(2, 1, row{"abc", 5, "defg"})
	for _, at := range []int{8, len(b) - 8} {
		for _, n := range []uint32{0, 1, 2, 5, 6, 7, 8, 11, 12, 16, 17, 19, 20, 1 << 16, 1<<31 - 1, 1 << 31, 1<<32 - 1} {
			wrong := slices.Clone(b)
			binary.BigEndian.PutUint32(wrong[at:], n)
			unloaded(t, fmt.Sprintf("a length of %d at %d", n, at), wrong)
		}
	}
	load(t, "the right lengths", b)
}

func TestR1_LoadOfAnyBytes(t *testing.T) {
	r := rand.New(rand.NewSource(10))
	taken := 0
	for k := range 60000 {
		b := make([]byte, r.Intn(60))
		for i := range b {
			if r.Intn(3) == 0 {
				b[i] = byte(r.Intn(256) >> r.Intn(8))
			}
		}
		if k%2 == 0 && len(b) > 8 { // a beginning that is right leads further on
			copy(b, bytesOf(1+r.Intn(64), r.Intn(3)))
		}
		if either(t, fmt.Sprintf("% x", b), b) {
			taken++
		}
	}
	if taken == 0 {
		t.Error("no row of bytes was taken")
	}
}

// What was saved, with some bytes turned, taken out or put in.
func TestR1_LoadOfSpoiltBytes(t *testing.T) {
	r := rand.New(rand.NewSource(11))
	all := kinds(t)
	for range 20000 {
		b := all[r.Intn(len(all)-1)].Save() // the long one apart: it takes its time
		for range 1 + r.Intn(3) {
			at := r.Intn(len(b))
			switch r.Intn(3) {
			case 0:
				b[at] = byte(r.Intn(256))
			case 1:
				b = slices.Delete(b, at, min(len(b), at+r.Intn(5)))
			case 2:
				b = slices.Insert(b, at, make([]byte, r.Intn(5))...)
			}
			if len(b) == 0 {
				break
			}
		}
		either(t, fmt.Sprintf("% x", b), b)
	}
}

func TestR2_Save(t *testing.T) {
	x := filled(t, 3, 4)
	b, again := x.Save(), x.Save()
	for k := range b[:cap(b)] {
		b[:cap(b)][k] = 0xff
	}
	clients(t, "Save's answer was written to", x, "c1", "c2", "c3")
	asks(t, "Save's answer was written to", x, "c2", 2, dedup.Again, "rc2")
	if !bytes.Equal(x.Save(), again) {
		t.Error("two answers of Save share memory")
	}
	done(t, "one more", x, "c4", 4, "")
	clients(t, "saved beside", load(t, "saved beside", again), "c1", "c2", "c3")
}

func TestR2_Load(t *testing.T) {
	b := filled(t, 3, 4).Save()
	room := append(slices.Clone(b), "room behind"...)
	x := load(t, "with room behind", room[:len(b)])
	if string(room) != string(b)+"room behind" {
		t.Error("Load turned its bytes")
	}
	for k := range room {
		room[k] = 0xff
	}
	clients(t, "Load's bytes were written to", x, "c1", "c2", "c3")
	asks(t, "Load's bytes were written to", x, "c1", 1, dedup.Again, "rc1")
	if !bytes.Equal(x.Save(), b) {
		t.Error("Load's bytes were written to: other bytes when it is saved")
	}
	unloaded(t, "what is short has room behind", b[:len(b)-1])
	y, z := load(t, "one", b), load(t, "another", b)
	done(t, "one", y, "c1", 9, "new")
	done(t, "one", y, "c5", 9, "new")
	clients(t, "one", y, "c3", "c1", "c5")
	clients(t, "another of the same bytes", z, "c1", "c2", "c3")
	asks(t, "another of the same bytes", z, "c1", 1, dedup.Again, "rc1")
}
