package shard_test

import (
	"bytes"
	"encoding/binary"
	"fmt"
	"math"
	"slices"
	"testing"

	"conclave/api"
	"conclave/shard"
	"conclave/sum"
)

// row is a case as it may stand in bytes.
type row struct {
	name  string
	state api.State
}

// casesOf answers what may be bytes of cases, written apart from package shard: how many there are, and rows, each of
// which may be wrong.
func casesOf(count int, rows ...row) []byte {
	b := four(nil, count)
	for _, r := range rows {
		b = text(b, r.name)
		b = text(b, r.state.Type)
		b = four(b, len(r.state.Vals))
		for _, n := range r.state.Vals {
			b = four(b, n)
		}
		b = truths(truths(b, r.state.Done), r.state.Got)
	}
	return b
}

func four(b []byte, n int) []byte { return binary.BigEndian.AppendUint32(b, uint32(n)) }

func text(b []byte, s string) []byte { return append(four(b, len(s)), s...) }

func truths(b []byte, l []bool) []byte {
	b = four(b, len(l))
	for _, ok := range l {
		if ok {
			b = append(b, 1)
		} else {
			b = append(b, 0)
		}
	}
	return b
}

func note(n int) api.State { return api.State{Type: "note", Vals: []int{n}} }

func loan(sum int, pay, shut, big bool) api.State {
	return api.State{Type: "loan", Vals: []int{sum}, Done: []bool{pay, shut}, Got: []bool{big}}
}

// frozen answers the Data of a Freeze that is Done.
func frozen(t *testing.T, s *shard.Shard, lo, hi int) []byte {
	t.Helper()
	return does(t, s, "done data", freezeOf(lo, hi)).Data
}

// takes looks whether a shard that owns nothing takes data, and has what want tells then.
func takes(t *testing.T, what string, lo, hi int, data []byte, want ...row) *shard.Shard {
	t.Helper()
	s := began(t, 0, 0)
	if a := s.Do(takeOf(lo, hi, data)); told(a) != "done" {
		t.Fatalf("%s: Take(%d, %d): %s", what, lo, hi, told(a))
	}
	var all []string
	for _, r := range want {
		all = append(all, r.name)
		if x, ok := s.Case(r.name); !ok || stateText(x) != stateText(r.state) {
			t.Errorf("%s: %s: %s; not %s", what, r.name, stateText(x), stateText(r.state))
		}
	}
	has(t, s, all...)
	for h, name := range one {
		if s.Owns(name) != (lo <= h && h < hi) {
			t.Errorf("%s: Owns of Hash %d: %t", what, h, s.Owns(name))
		}
	}
	return s
}

// takesNot looks whether a shard that owns nothing refuses data.
func takesNot(t *testing.T, what string, lo, hi int, data []byte) {
	t.Helper()
	s := began(t, 0, 0)
	before := seen(s)
	if a := s.Do(takeOf(lo, hi, data)); told(a) != "none" || seen(s) != before {
		t.Errorf("%s: Take(%d, %d): %s; %s", what, lo, hi, told(a), seen(s))
	}
}

func TestP16_3_FreezeLater(t *testing.T) {
	s := began(t, 0, 200)
	h := sum.Hash("a")
	once(t, s, `yes ["" ""]`, create("a", "loan"), create(one[150], "note"))
	for _, o := range []api.Op{read("a"), set("a", "sum", 7), create(ofHash(h, 1)[0], "note")} {
		if a := s.Do(prepareOf(fmt.Sprint("t", o.Kind), o)); a.Kind != shard.Yes {
			t.Fatal(told(a))
		}
		for _, c := range [][2]int{{h, h + 1}, {0, h + 1}, {h, 200}, {0, 200}, {h - 1, h + 2}, {h, 256}, {0, 256}} {
			same(t, s, "later", freezeOf(c[0], c[1]))
		}
		same(t, s, "gone", freezeOf(h+1, 201))
		same(t, s, "gone", freezeOf(200, 256))
		same(t, s, "gone", freezeOf(255, 256))
		same(t, s, "none", leaveOf(h, h+1))
		frozen(t, s, 0, h)
		frozen(t, s, h+1, 200)
		both(t, s, "gone", read(one[150]))
		does(t, s, "done", abortOf(fmt.Sprint("t", o.Kind)))
	}
	frozen(t, s, h, h+1)
	both(t, s, "gone", read("a"))
}

// Freed by either outcome, but while another one holds it.
func TestP16_3_FreezeWhenItIsFree(t *testing.T) {
	h := sum.Hash("a")
	for _, end := range []func(string) shard.Cmd{commitOf, abortOf} {
		s := pair(t)
		prepare(t, s, `yes ["loan sum=5"]`, "t", read("a"))
		prepare(t, s, `yes ["loan sum=5"]`, "u", read("a"))
		same(t, s, "later", freezeOf(h, h+1))
		does(t, s, "done", end("u"))
		same(t, s, "later", freezeOf(h, h+1))
		does(t, s, "done", end("t"))
		frozen(t, s, h, h+1)
	}
}

func TestP16_3_FreezeGone(t *testing.T) {
	s := began(t, 50, 100)
	once(t, s, `yes [""]`, create(one[60], "note"))
	for _, c := range [][2]int{{0, 256}, {49, 100}, {50, 101}, {49, 50}, {100, 101}, {0, 50}, {100, 256}, {0, 1}, {255, 256}} {
		same(t, s, "gone", freezeOf(c[0], c[1]))
	}
	frozen(t, s, 70, 80)
	does(t, s, "done", leaveOf(70, 80))
	for _, c := range [][2]int{{50, 100}, {69, 71}, {79, 81}, {70, 80}, {75, 76}} {
		same(t, s, "gone", freezeOf(c[0], c[1]))
	}
	frozen(t, s, 50, 70)
	frozen(t, s, 80, 100)
}

// Frozen: owned as before, there as before, but nobody may run on it; others may.
func TestP16_3_Frozen(t *testing.T) {
	s := began(t, 0, 256)
	in, out := ofHash(30, 2), ofHash(31, 1)[0]
	once(t, s, `yes ["" "" ""]`, create(in[0], "note"), create(in[1], "loan"), create(out, "note"))
	was := seen(s)
	frozen(t, s, 30, 31)
	if seen(s) != was {
		t.Errorf("%s became %s", was, seen(s))
	}
	is(t, s, in[1], "loan sum=5")
	for _, name := range append(in, ofHash(30, 3)[2]) {
		both(t, s, "gone", read(name))
		both(t, s, "gone", read(out), create(name, "note"))
	}
	once(t, s, `yes ["" "note n=4"]`, set(out, "n", 4), read(out))
	does(t, s, "done", abortOf("t"))
}

// Data hangs on the cases alone: not on the bounds, on the way to them, on how often it is asked.
func TestP16_3_FreezeData(t *testing.T) {
	h := sum.Hash("a")
	s := pair(t)
	once(t, s, `yes ["" ""]`, set("a", "sum", 60), fire("a", "pay"))
	a := frozen(t, s, h, h+1)
	for _, got := range [][]byte{frozen(t, s, h, h+1), frozen(t, s, h, h+1), frozen(t, s, min(h, sum.Hash("b")+1), h+1)} {
		if !bytes.Equal(got, a) {
			t.Errorf("% x; not % x", got, a)
		}
	}
	other := began(t, 0, h+1)
	prepare(t, other, `yes ["" "" ""]`, "t", create("a", "loan"), fire("a", "pay"), add("a", "sum", 55))
	does(t, other, "done", commitOf("t"))
	if got := frozen(t, other, h, h+1); !bytes.Equal(got, a) {
		t.Errorf("% x; not % x", got, a)
	}
	empty := frozen(t, began(t, 0, 256), 0, 256)
	for _, c := range [][2]int{{0, 0}, {256, 256}, {h, h}, {h + 1, h + 1}, {1, 2}} {
		if got := frozen(t, began(t, 0, 256), c[0], c[1]); !bytes.Equal(got, empty) {
			t.Errorf("no cases: % x; not % x", got, empty)
		}
	}
}

// Each state has its own bytes.
func TestP16_3_FreezeTellsApart(t *testing.T) {
	h := sum.Hash("a")
	told := map[string]string{}
	for _, l := range [][]api.Op{
		{}, {create("a", "loan")}, {create("a", "note")}, {create("a", "bare")}, {create("a", "loan"), fire("a", "pay")},
		{create("a", "loan"), fire("a", "pay"), fire("a", "shut")}, {create("a", "loan"), set("a", "sum", 60)}, {create("a", "loan"), set("a", "sum", 60), set("a", "sum", 5)},
		{create("a", "note"), set("a", "n", -1)}, {create("a", "note"), set("a", "n", 1)}, {create(ofHash(h, 1)[0], "loan")}, {create("a", "loan"), create(ofHash(h, 1)[0], "loan")},
	} {
		s := began(t, 0, 256)
		if len(l) > 0 {
			s.Do(onceOf(l...))
		}
		data := string(frozen(t, s, h, h+1))
		if other, ok := told[data]; ok {
			t.Errorf("%v has the bytes of %s", l, other)
		}
		told[data] = fmt.Sprint(l)
	}
}

// Lo = Hi: Done, whatever Data is and whatever is owned, and nothing turns.
func TestP16_3_NoHashes(t *testing.T) {
	s := began(t, 100, 200)
	once(t, s, `yes [""]`, create(one[150], "note"))
	prepare(t, s, `yes [""]`, "t", set(one[150], "n", 1))
	for _, at := range []int{0, 99, 100, 150, 151, 199, 200, 255, 256} {
		for range 2 {
			same(t, s, "done data", freezeOf(at, at))
			same(t, s, "done", leaveOf(at, at))
			for _, data := range [][]byte{nil, {}, {0}, []byte("data"), casesOf(0), casesOf(1, row{"a", note(0)})} {
				same(t, s, "done", takeOf(at, at, data))
			}
		}
	}
}

func TestP16_3_WrongBounds(t *testing.T) {
	s := began(t, 0, 256)
	once(t, s, `yes [""]`, create("a", "note"))
	prepare(t, s, `yes ["note n=0"]`, "t", read("a"))
	none := began(t, 0, 0)
	edges := []int{math.MinInt, -1, 0, 1, 255, 256, 257, 1 << 32, math.MaxInt}
	for _, lo := range edges {
		for _, hi := range edges {
			if 0 <= lo && lo <= hi && hi <= 256 {
				continue
			}
			for _, x := range []*shard.Shard{s, none} {
				same(t, x, "none", freezeOf(lo, hi))
				same(t, x, "none", leaveOf(lo, hi))
				same(t, x, "none", takeOf(lo, hi, casesOf(0)))
				same(t, x, "none", takeOf(lo, hi, nil))
			}
		}
	}
}

func TestP16_3_TakeOfWhatWasFrozen(t *testing.T) {
	s := began(t, 0, 256)
	for k, name := range ofHash(7, 5) {
		once(t, s, `yes ["" ""]`, create(name, "note"), set(name, "n", 2*k-4))
	}
	once(t, s, `yes ["" "" ""]`, create(one[9], "loan"), set(one[9], "sum", 60), fire(one[9], "pay"))
	once(t, s, `yes [""]`, create(one[20], "bare"))
	var all []row
	for _, name := range s.Cases() {
		x, _ := s.Case(name)
		all = append(all, row{name, x})
	}
	some := func(lo, hi int) []row {
		return slices.DeleteFunc(slices.Clone(all), func(r row) bool { return sum.Hash(r.name) < lo || sum.Hash(r.name) >= hi })
	}
	for _, c := range [][2]int{{7, 8}, {0, 256}, {7, 10}, {8, 10}, {9, 256}, {8, 9}, {20, 21}, {21, 256}, {0, 8}} {
		data := frozen(t, s, c[0], c[1])
		x := takes(t, fmt.Sprint(c), c[0], c[1], data, some(c[0], c[1])...)
		if got := frozen(t, x, c[0], c[1]); !bytes.Equal(got, data) {
			t.Errorf("%v: frozen again: % x; not % x", c, got, data)
		}
	}
	wide := takes(t, "wider bounds", 3, 200, frozen(t, s, 7, 10), some(7, 10)...)
	once(t, wide, `yes ["loan sum=60 +pay *big" ""]`, read(one[9]), create(one[199], "note"))
}

// What was taken is owned and not frozen: operations run on it, also where it was left ahead.
func TestP16_3_TakeAndLeave(t *testing.T) {
	s, other := began(t, 0, 128), began(t, 128, 256)
	name := one[40]
	once(t, s, `yes ["" ""]`, create(name, "note"), create(one[41], "loan"))
	for n := range 4 {
		data := frozen(t, s, 40, 41)
		both(t, other, "gone", read(name))
		does(t, other, "done", takeOf(40, 41, data))
		once(t, other, fmt.Sprintf(`yes ["note n=%d" ""]`, n), read(name), add(name, "n", 1))
		does(t, s, "done", leaveOf(40, 41))
		is(t, s, name, "")
		both(t, s, "gone", read(name))
		both(t, s, "gone", create(name, "note"))
		both(t, s, "gone", read(one[41]), create(ofHash(40, 2)[1], "note"))
		has(t, s, slices.DeleteFunc(s.Cases(), func(c string) bool { return sum.Hash(c) == 40 })...)
		s, other = other, s
	}
}

// None, if one of the Hashes is owned, or frozen.
func TestP16_3_TakeOfOwned(t *testing.T) {
	s := began(t, 50, 100)
	frozen(t, s, 60, 70)
	data := frozen(t, began(t, 0, 256), 0, 256)
	for _, c := range [][2]int{{0, 256}, {50, 100}, {49, 51}, {99, 100}, {99, 101}, {60, 70}, {65, 66}, {0, 51}, {99, 256}, {50, 51}} {
		same(t, s, "none", takeOf(c[0], c[1], data))
	}
	does(t, s, "done", takeOf(0, 50, data))
	same(t, s, "none", takeOf(0, 50, data))
	does(t, s, "done", takeOf(100, 256, data))
	same(t, s, "none", takeOf(255, 256, data))
	does(t, s, "done", leaveOf(60, 70))
	does(t, s, "done", takeOf(60, 65, data))
	same(t, s, "none", takeOf(60, 70, data))
	does(t, s, "done", takeOf(65, 70, data))
	does(t, s, "done data", freezeOf(0, 256))
}

func TestP16_3_LeaveOnlyWhatIsFrozen(t *testing.T) {
	s := began(t, 0, 200)
	for _, h := range []int{10, 20, 30, 40} {
		once(t, s, `yes [""]`, create(one[h], "note"))
	}
	same(t, s, "none", leaveOf(0, 200))
	same(t, s, "none", leaveOf(10, 11))
	same(t, s, "none", leaveOf(200, 256))
	frozen(t, s, 15, 35)
	for _, c := range [][2]int{{14, 35}, {15, 36}, {14, 15}, {35, 36}, {0, 200}, {0, 256}, {201, 202}} {
		same(t, s, "none", leaveOf(c[0], c[1]))
	}
	does(t, s, "done", leaveOf(15, 25))
	has(t, s, slices.Sorted(slices.Values([]string{one[10], one[30], one[40]}))...)
	same(t, s, "none", leaveOf(15, 25))
	same(t, s, "none", leaveOf(15, 35))
	same(t, s, "none", leaveOf(24, 26))
	if s.Owns(one[15]) || s.Owns(one[24]) || !s.Owns(one[25]) || !s.Owns(one[14]) {
		t.Error("Owns behind Leave")
	}
	both(t, s, "gone", read(one[30]))
	does(t, s, "done", leaveOf(25, 35))
	has(t, s, slices.Sorted(slices.Values([]string{one[10], one[40]}))...)
	once(t, s, `yes ["note n=0" "note n=0"]`, read(one[10]), read(one[40]))
}

func TestP16_3_TakeCutOrLonger(t *testing.T) {
	s := began(t, 0, 256)
	once(t, s, `yes ["" "" ""]`, create(one[3], "loan"), create(one[4], "note"), create(one[5], "bare"))
	for _, c := range [][2]int{{0, 256}, {3, 4}, {4, 6}, {100, 101}} {
		data := frozen(t, s, c[0], c[1])
		for n := range data {
			takesNot(t, fmt.Sprintf("%d of %d bytes", n, len(data)), c[0], c[1], data[:n])
		}
		for _, tail := range []string{"\x00", "\x01", "\xff", "tail", string(data)} {
			takesNot(t, "longer", c[0], c[1], append(slices.Clone(data), tail...))
			takesNot(t, "something ahead", c[0], c[1], append([]byte(tail), data...))
		}
	}
	for n := range 40 {
		if n != 4 {
			takesNot(t, "bytes of zero", 0, 256, make([]byte, n))
		}
		takesNot(t, "bytes of all ones", 0, 256, bytes.Repeat([]byte{0xff}, n))
	}
}

// What a byte is turned to is refused, or is what a Freeze answers of just these cases.
func TestP16_3_TakeTurned(t *testing.T) {
	s := began(t, 0, 256)
	once(t, s, `yes ["" "" ""]`, create(one[3], "loan"), create(one[4], "note"), create("abcdefghijkl", "bare"))
	data := frozen(t, s, 0, 256)
	taken := 0
	for at := range data {
		for to := range 256 {
			turned := slices.Clone(data)
			turned[at] = byte(to)
			x := began(t, 0, 0)
			switch a := x.Do(takeOf(0, 256, turned)); a.Kind {
			case shard.None:
			case shard.Done:
				taken++
				if got := frozen(t, x, 0, 256); !bytes.Equal(got, turned) {
					t.Fatalf("byte %d turned to %d: % x; not % x", at, to, got, turned)
				}
			default:
				t.Fatalf("byte %d turned to %d: %s", at, to, told(a))
			}
		}
	}
	if taken < len(data) {
		t.Errorf("only %d were taken", taken)
	}
}

func TestP16_3_TakeOfOtherHashes(t *testing.T) {
	s := began(t, 0, 256)
	once(t, s, `yes ["" ""]`, create(one[100], "note"), create(one[110], "note"))
	data := frozen(t, s, 0, 256)
	for _, c := range [][2]int{{0, 100}, {0, 110}, {101, 256}, {100, 110}, {101, 111}, {111, 256}, {0, 1}} {
		takesNot(t, "other Hashes", c[0], c[1], data)
	}
	x, _ := s.Case(one[100])
	first, second := row{one[100], x}, row{one[110], x}
	if second.name < first.name {
		first, second = second, first
	}
	takes(t, "the very bounds", 100, 111, data, first, second)
}

func TestP16_3_TakeOfRightRows(t *testing.T) {
	a, b, c := row{"a", note(-9)}, row{"ab", loan(100, true, false, true)}, row{"b", api.State{Type: "bare", Got: []bool{true}}}
	s := began(t, 0, 256)
	once(t, s, `yes ["" ""]`, create("a", "note"), set("a", "n", -9))
	once(t, s, `yes ["" "" ""]`, create("ab", "loan"), set("ab", "sum", 100), fire("ab", "pay"))
	once(t, s, `yes [""]`, create("b", "bare"))
	if got := frozen(t, s, 0, 256); !bytes.Equal(got, casesOf(3, a, b, c)) {
		t.Fatalf("another writing than these tests have: % x", got)
	}
	takes(t, "none", 0, 256, casesOf(0))
	takes(t, "one", 0, 256, casesOf(1, a), a)
	takes(t, "three", 0, 256, casesOf(3, a, b, c), a, b, c)
	unsettled := row{"b", api.State{Type: "bare", Got: []bool{false}}}
	x := takes(t, "a state that Fits, whatever is got", 0, 256, casesOf(2, a, unsettled), a, unsettled)
	once(t, x, `yes ["bare"]`, read("b"))
	long := row{"zzzzzzzzzzzz", note(9)}
	takes(t, "the longest name", 0, 256, casesOf(1, long), long)
}

func TestP16_3_TakeOfWrongRows(t *testing.T) {
	a, b := row{"a", note(1)}, row{"b", note(2)}
	with := func(change func(s *api.State)) row {
		s := loan(5, true, false, true)
		change(&s)
		return row{"a", s}
	}
	type list struct {
		count int
		rows  []row
	}
	all := map[string]list{
		"not rising":                 {2, []row{b, a}},
		"one twice":                  {2, []row{a, a}},
		"one twice, not alike":       {2, []row{a, {"a", note(2)}}},
		"not rising at the end":      {3, []row{a, b, {"aa", note(0)}}},
		"fewer than it says":         {3, []row{a, b}},
		"more than it says":          {1, []row{a, b}},
		"one, though it says none":   {0, []row{a}},
		"as many as there are bytes": {46, []row{a, b}},
		"2^31 of them":               {1 << 31, []row{a, b}},
		"as many as may be said":     {1<<32 - 1, []row{a, b}},
		"no type of ours":            {1, []row{{"a", api.State{Type: "zz"}}}},
		"no type":                    {1, []row{{"a", api.State{}}}},
		"a type's name, longer":      {1, []row{{"a", api.State{Type: "notes", Vals: []int{1}}}}},
		"a type in other letters":    {1, []row{{"a", api.State{Type: "Note", Vals: []int{1}}}}},
		"another type's state":       {1, []row{{"a", api.State{Type: "loan", Vals: []int{1}}}}},
		"too high":                   {1, []row{{"a", note(10)}}},
		"too low":                    {1, []row{{"a", note(-10)}}},
		"as high as can be":          {1, []row{{"a", note(math.MaxInt32)}}},
		"as low as can be":           {1, []row{{"a", note(math.MinInt32)}}},
		"wrong behind a right one":   {2, []row{a, {"b", note(10)}}},
		"wrong ahead of a right one": {2, []row{{"a", note(10)}, b}},
		"too high, of a loan":        {1, []row{with(func(s *api.State) { s.Vals[0] = 101 })}},
		"no values":                  {1, []row{with(func(s *api.State) { s.Vals = nil })}},
		"a value more":               {1, []row{with(func(s *api.State) { s.Vals = []int{5, 5} })}},
		"seven values":               {1, []row{with(func(s *api.State) { s.Vals = make([]int, 7) })}},
		"a stage fewer":              {1, []row{with(func(s *api.State) { s.Done = s.Done[:1] })}},
		"a stage more":               {1, []row{with(func(s *api.State) { s.Done = make([]bool, 3) })}},
		"a mark fewer":               {1, []row{with(func(s *api.State) { s.Got = nil })}},
		"a mark more":                {1, []row{with(func(s *api.State) { s.Got = make([]bool, 2) })}},
	}
	for what, l := range all {
		takesNot(t, what, 0, 256, casesOf(l.count, l.rows...))
	}
	for _, name := range noNames() {
		takesNot(t, fmt.Sprintf("the name %.20q", name), 0, 256, casesOf(1, row{name, note(0)}))
	}
	takes(t, "with nothing changed", 0, 256, casesOf(1, with(func(*api.State) {})), with(func(*api.State) {}))
}

// A truth that is neither of the two is none.
func TestP16_3_TakeOfWrongTruths(t *testing.T) {
	data := casesOf(1, row{"a", loan(5, true, false, true)})
	for k, at := range []int{len(data) - 1, len(data) - 6, len(data) - 7} {
		for n := range 256 {
			turned := slices.Clone(data)
			turned[at] = byte(n)
			if n > 1 {
				takesNot(t, fmt.Sprintf("truth %d is %d", k, n), 0, 256, turned)
			} else if a := began(t, 0, 0).Do(takeOf(0, 256, turned)); a.Kind != shard.Done {
				t.Errorf("truth %d is %d: %s", k, n, told(a))
			}
		}
	}
}

// A type of the same name that is another: what does not Fit it is not taken.
func TestP16_3_TakeByOtherTypes(t *testing.T) {
	s := began(t, 0, 256)
	once(t, s, `yes [""]`, create("a", "note"))
	data := frozen(t, s, 0, 256)
	for text, want := range map[string]string{
		noteText:                     "done",
		"type note; attr sum 1 -1 1": "done",
		"type note; attr n 1 1 9":    "none",
		"type note":                  "none",
		"type note; stage n 1":       "none",
		"type note; stage a 1; stage b 1; stage c 1; stage d 1": "none",
		"type note; attr n 0 0 0; mark m 1":                     "none",
		"type notes; attr n 0 -9 9":                             "none",
	} {
		x, why := shard.New(typed(t, text), 0, 0)
		if why != api.OK {
			t.Fatal(why)
		}
		does(t, x, want, takeOf(0, 256, data))
	}
	x, _ := shard.New(nil, 0, 0)
	does(t, x, "none", takeOf(0, 256, data))
	does(t, x, "done", takeOf(0, 256, casesOf(0)))
}

// MaxCases bounds Create alone: several Takes may bring more, a Freeze answers them all, and they may be taken again.
// More than a Freeze of these Hashes might answer are those that say so and are not there.
func TestP16_3_MoreThanMostCases(t *testing.T) {
	var rows []row
	for _, name := range names(100) {
		rows = append(rows, row{name, note(0)})
	}
	data := casesOf(100, rows...)
	s := takes(t, "a hundred", 0, 256, data, rows...)
	once(t, s, "no 0 34", create("more", "note"))
	once(t, s, "no 0 33", create("caaa", "note"))
	once(t, s, `yes ["" "note n=1"]`, set("caaa", "n", 1), read("caaa"))
	once(t, s, `yes [""]`, set("caaa", "n", 0))
	prepare(t, s, "no 0 34", "t", create("more", "note"))
	if got := frozen(t, s, 0, 256); !bytes.Equal(got, data) {
		t.Error("a hundred: other bytes when they are frozen")
	}
	for _, n := range []int{0, 1, 32, 33, 99, 101, 128, 1 << 16, 1<<32 - 1} {
		takesNot(t, fmt.Sprintf("a hundred that say %d", n), 0, 256, casesOf(n, rows...))
	}
	does(t, s, "done", leaveOf(0, 128))
	var left []row
	for _, r := range rows {
		if sum.Hash(r.name) >= 128 {
			left = append(left, r)
		}
	}
	if got := frozen(t, s, 128, 256); !bytes.Equal(got, casesOf(len(left), left...)) {
		t.Error("what is left of a hundred: other bytes")
	}
}

// Fewer than most again behind a Leave: there is room.
func TestP16_3_RoomBehindLeave(t *testing.T) {
	s := filled(t, 32)
	once(t, s, "no 0 34", create("more", "note"))
	h := sum.Hash("caaa")
	frozen(t, s, h, h+1)
	once(t, s, "no 0 34", create("more", "note"))
	does(t, s, "done", leaveOf(h, h+1))
	if sum.Hash("more") == h {
		t.Fatal("another name is asked for")
	}
	once(t, s, `yes [""]`, create("more", "note"))
}

// A transaction that was prepared, and decided, is nothing to those who take its cases.
func TestP16_3_OutcomesStay(t *testing.T) {
	s := pair(t)
	prepare(t, s, `yes [""]`, "t", set("a", "sum", 7))
	does(t, s, "done", commitOf("t"))
	does(t, s, "done", abortOf("u"))
	data := frozen(t, s, 0, 256)
	does(t, s, "done", leaveOf(0, 256))
	outcome(t, s, "t", api.Committed)
	outcome(t, s, "u", api.Aborted)
	does(t, s, "done", commitOf("t"))
	same(t, s, "done", prepareOf("t", read("a")))
	other := takes(t, "all", 0, 256, data, row{"a", loan(7, false, false, false)}, row{"b", note(0)})
	outcome(t, other, "t", api.Open)
	outcome(t, other, "u", api.Open)
}
