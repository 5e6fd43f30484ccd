package shard_test

import (
	"fmt"
	"math"
	"strings"
	"testing"

	"conclave/api"
	"conclave/shard"
)

// noNames: texts that are no guard.Name.
func noNames() []string {
	return []string{"", "A", "aB", "a1", "1", "-1", " a", "a ", "a b", "a;", "é", "\x00", "\xff", "and", "or", "not", "lt", "eq", "add", "sub", "type", "attr", "stage", "mark", "abcdefghijklm", strings.Repeat("z", 300)}
}

// both looks whether a Once and a Prepare of l answer want, a refusal.
func both(t *testing.T, s *shard.Shard, want string, l ...api.Op) {
	t.Helper()
	same(t, s, want, onceOf(l...))
	same(t, s, want, prepareOf("both", l...))
}

func TestP16_2_Create(t *testing.T) {
	s := began(t, 0, 256)
	for _, c := range [][3]string{{"a", "loan", "loan sum=5"}, {"b", "note", "note n=0"}, {"c", "bare", "bare *on"}, {"loan", "bare", "bare *on"}, {"abcdefghijkl", "note", "note n=0"}} {
		is(t, s, c[0], "")
		once(t, s, `yes [""]`, create(c[0], c[1]))
		is(t, s, c[0], c[2])
		once(t, s, fmt.Sprintf("yes [%q]", c[2]), read(c[0]))
		both(t, s, "no 0 33", create(c[0], c[1]))
	}
	has(t, s, "a", "abcdefghijkl", "b", "c", "loan")
}

// N counts for nothing.
func TestP16_2_CreateWhateverNIs(t *testing.T) {
	s := began(t, 0, 256)
	for k, n := range []int{-1, 1, 101, math.MinInt, math.MaxInt} {
		o := create(names(9)[k], "loan")
		o.N = n
		once(t, s, `yes [""]`, o)
		is(t, s, o.Case, "loan sum=5")
	}
}

func TestP16_2_CreateRefused(t *testing.T) {
	s := began(t, 0, 256)
	once(t, s, `yes [""]`, create("a", "loan"))
	for _, name := range []string{"loan", "note", "bare"} {
		both(t, s, "no 0 33", create("a", name))
	}
	for _, name := range []string{"", "loans", "loa", "Loan", " loan", "sum", "pay", "a", "type", "\xff"} {
		both(t, s, "no 0 38", create("b", name))
	}
	for _, c := range noNames() {
		both(t, s, "no 0 31", create(c, "loan"))
	}
}

// Each refusal ahead of those that the chapter names behind it.
func TestP16_2_WhichRefusalOfCreate(t *testing.T) {
	s := filled(t, 31)
	both(t, s, "no 0 33", create("caaa", "zz"))
	both(t, s, "no 0 38", create("B", "zz"))
	both(t, s, "no 0 31", create("B", "note"))
	once(t, s, `yes [""]`, create("last", "loan"))
	both(t, s, "no 0 34", create("more", "loan"))
	both(t, s, "no 0 33", create("last", "note"))
	both(t, s, "no 0 33", create("caaa", "zz"))
	both(t, s, "no 0 38", create("more", "zz"))
	both(t, s, "no 0 38", create("B", "zz"))
	for _, c := range noNames() {
		both(t, s, "no 0 34", create(c, "note"))
	}
}

// How many there are counts with those that are created ahead in the same row.
func TestP16_2_MostCases(t *testing.T) {
	l := []api.Op{create("a", "note"), create("b", "loan"), create("d", "bare"), create("e", "note")}
	yes := `yes ["" "" "" ""]`
	for n := 27; n <= 32; n++ {
		s := filled(t, n)
		if n <= 28 {
			once(t, s, yes, l...)
			continue
		}
		both(t, s, fmt.Sprintf("no %d 34", 32-n), l...)
		does(t, s, fmt.Sprintf("no %d 34", []int{5, 6, 7, 8}[32-n]), shard.Cmd{Kind: shard.Once, Ops: l, At: []int{5, 6, 7, 8}})
		has(t, s, names(n)...)
		once(t, s, `yes ["note n=0"]`, read("caaa"))
	}
	s := filled(t, 32)
	once(t, s, `yes ["" "" "note n=3"]`, set("caaa", "n", 3), add("caab", "n", -9), read("caaa"))
}

func TestP16_2_NoCase(t *testing.T) {
	s := began(t, 0, 256)
	once(t, s, `yes [""]`, create("a", "loan"))
	for _, c := range append(noNames(), "b", "aa", "loan") {
		both(t, s, "no 0 30", set(c, "sum", 1))
		both(t, s, "no 0 30", set(c, "zz", 101))
		both(t, s, "no 0 30", add(c, "sum", 2001))
		both(t, s, "no 0 30", fire(c, "zz"))
		both(t, s, "no 0 30", read(c))
	}
}

func TestP16_2_RefusalsOfApply(t *testing.T) {
	s := began(t, 0, 256)
	once(t, s, `yes ["" ""]`, create("a", "loan"), create("b", "note"))
	both(t, s, "no 0 31", set("a", "n", 1))
	both(t, s, "no 0 31", set("a", "", 1))
	both(t, s, "no 0 31", add("b", "sum", 1))
	both(t, s, "no 0 34", set("a", "sum", 101))
	both(t, s, "no 0 34", set("a", "sum", -1))
	both(t, s, "no 0 34", add("a", "sum", 96))
	both(t, s, "no 0 34", add("a", "sum", math.MaxInt))
	both(t, s, "no 0 34", set("b", "n", math.MinInt))
	both(t, s, "no 0 32", fire("a", "zz"))
	both(t, s, "no 0 32", fire("a", "sum"))
	both(t, s, "no 0 32", fire("a", "shut"))
	both(t, s, "no 0 32", fire("b", "pay"))
	once(t, s, `yes [""]`, fire("a", "pay"))
	both(t, s, "no 0 32", fire("a", "pay"))
	once(t, s, `yes [""]`, set("a", "sum", 0))
	once(t, s, `yes [""]`, fire("a", "shut"))
	once(t, s, `yes ["loan sum=0 +pay +shut"]`, read("a"))
}

// Each operation goes on what those ahead of it left, and each has its text.
func TestP16_2_OneBehindTheOther(t *testing.T) {
	s := began(t, 0, 256)
	once(t, s, `yes ["" "loan sum=5" "" "loan sum=55 *big"]`, create("a", "loan"), read("a"), add("a", "sum", 50), read("a"))
	once(t, s, `yes ["" "" "" "loan sum=100 +pay +shut *big"]`, fire("a", "pay"), fire("a", "shut"), set("a", "sum", 100), read("a"))
	once(t, s, `yes ["" "" "note n=9"]`, create("b", "note"), set("b", "n", 9), read("b"))
	once(t, s, `yes ["note n=9" "" "note n=8" "loan sum=100 +pay +shut *big"]`, read("b"), add("b", "n", -1), read("b"), read("a"))
	both(t, s, "no 2 34", add("b", "n", -9), add("b", "n", -8), add("b", "n", -1))
	both(t, s, "no 1 33", create("d", "bare"), create("d", "bare"))
	both(t, s, "no 1 33", create("d", "bare"), create("d", "zz"))
	both(t, s, "no 2 32", create("e", "loan"), fire("e", "pay"), fire("e", "pay"))
}

// A refused row leaves nothing of what went well ahead of it.
func TestP16_2_WhichIsRefused(t *testing.T) {
	good := func(k int) api.Op { return add("a", "sum", k+1) }
	for length := 1; length <= api.MaxOps; length++ {
		for at := range length {
			for _, c := range []struct {
				bad api.Op
				why api.Errno
			}{
				{create("a", "loan"), api.Exists}, {create("z", "zz"), api.Unknown}, {create("Z", "loan"), api.NoName},
				{read("z"), api.NoCase}, {set("a", "zz", 1), api.NoName}, {set("a", "sum", 101), api.Bound}, {fire("a", "zz"), api.NoStage},
			} {
				s := began(t, 0, 256)
				once(t, s, `yes [""]`, create("a", "loan"))
				var l []api.Op
				var places []int
				for k := range length {
					l = append(l, good(k))
					places = append(places, 100-7*k)
				}
				l[at] = c.bad
				both(t, s, fmt.Sprintf("no %d %d", at, int(c.why)), l...)
				want := fmt.Sprintf("no %d %d", 100-7*at, int(c.why))
				same(t, s, want, shard.Cmd{Kind: shard.Once, Ops: l, At: places})
				same(t, s, want, shard.Cmd{Kind: shard.Prepare, Tx: "t", Ops: l, At: places})
				is(t, s, "a", "loan sum=5")
			}
		}
	}
}

// The first that is refused, if several are.
func TestP16_2_TheFirstRefused(t *testing.T) {
	s := began(t, 0, 256)
	once(t, s, `yes [""]`, create("a", "loan"))
	both(t, s, "no 1 34", read("a"), set("a", "sum", 101), read("zz"), create("a", "zz"))
	both(t, s, "no 0 30", read("zz"), set("a", "sum", 101))
}

// Positions are told as they are given, whichever they are; those of operations that go well are not.
func TestP16_2_Positions(t *testing.T) {
	s := began(t, 0, 256)
	once(t, s, `yes [""]`, create("a", "loan"))
	l := []api.Op{read("a"), read("zz")}
	for _, at := range []int{0, 1, 3, -1, math.MinInt, math.MaxInt} {
		same(t, s, fmt.Sprintf("no %d 30", at), shard.Cmd{Kind: shard.Once, Ops: l, At: []int{5, at}})
		same(t, s, fmt.Sprintf("no %d 30", at), shard.Cmd{Kind: shard.Prepare, Tx: "t", Ops: l, At: []int{5, at}})
	}
	same(t, s, "no 1 30", shard.Cmd{Kind: shard.Once, Ops: l, At: []int{}})
	same(t, s, `yes ["loan sum=5"]`, shard.Cmd{Kind: shard.Once, Ops: l[:1], At: []int{9}})
	for n := range 6 {
		want := "none"
		if n == 0 || n == 2 {
			want = fmt.Sprintf("no %d 30", 1)
		}
		same(t, s, want, shard.Cmd{Kind: shard.Once, Ops: l, At: []int{0, 1, 2, 3, 4}[:n]})
		same(t, s, want, shard.Cmd{Kind: shard.Prepare, Tx: "t", Ops: l, At: []int{0, 1, 2, 3, 4}[:n]})
	}
}

// Wants: to write unless it is a Read. A transaction holds a case by each kind; whoever reads and writes it is asked.
func TestP16_2_Wants(t *testing.T) {
	for _, o := range []api.Op{create("z", "note"), set("a", "sum", 6), add("a", "sum", 1), fire("a", "pay"), read("a"), read("b")} {
		s := began(t, 0, 256)
		once(t, s, `yes ["" ""]`, create("a", "loan"), create("b", "note"))
		if a := s.Do(prepareOf("t", o)); a.Kind != shard.Yes {
			t.Fatalf("%v: %s", o, told(a))
		}
		readers, writers := "later", "later"
		if o.Kind == api.Read {
			x, _ := s.Case(o.Case)
			readers = map[string]string{"loan": `yes ["loan sum=5"]`, "note": `yes ["note n=0"]`}[x.Type]
		}
		same(t, s, readers, onceOf(read(o.Case)))
		for _, w := range []api.Op{create(o.Case, "zz"), set(o.Case, "zz", 1), add(o.Case, "sum", 1), fire(o.Case, "pay")} {
			same(t, s, writers, onceOf(w))
			same(t, s, writers, prepareOf("u", w))
			same(t, s, writers, onceOf(create("free", "note"), w))
		}
	}
}
