package locks_test

import (
	"fmt"
	"math/rand"
	"slices"
	"strings"
	"testing"

	"conclave/api"
	"conclave/locks"
)

func long(s string) string { return strings.Repeat(s, 1<<16) }

// anyTexts: of all kinds, with very long ones among them.
func anyTexts() []string {
	return append(oddNames(), "", long("a"), long("a")+"b", long("\x00"), long("\xff"))
}

func TestR1_AnyTexts(t *testing.T) {
	x := locks.New()
	for _, tx := range anyTexts() {
		for _, name := range anyTexts() {
			for _, on := range []bool{false, true} {
				why := x.Take(tx, []locks.Want{{Case: name, Write: on}, {Case: tx, Write: on}})
				if (why == api.ErrArg) != (tx == "") {
					t.Errorf("Take(%.20q, %.20q): %d", tx, name, why)
				}
				x.Take(tx, nil)
				x.Holders(name)
				x.Writer(name)
				x.Held(tx)
				x.All()
			}
			if len(name)%2 > 0 {
				x.Free(tx)
			}
		}
	}
	for _, tx := range anyTexts() {
		x.Free(tx)
		frees(t, "any text", x, tx, false)
	}
	all(t, "any text", x)
}

// many answers n names, rising.
func many(n int) []string {
	var all []string
	for k := range n {
		all = append(all, fmt.Sprintf("%08d", k))
	}
	return all
}

func TestR1_ManyCases(t *testing.T) {
	const n = 1 << 17
	names := many(n)
	var l []locks.Want
	for k := range n {
		l = append(l, locks.Want{Case: names[(k*77773)%n], Write: k%2 > 0})
	}
	x := locks.New()
	takes(t, "many", x, "a", l...)
	takes(t, "many, twice", x, "a", l...)
	held(t, "many", x, "a", names...)
	if why := x.Take("b", l); why != api.Busy {
		t.Errorf("many, by another: %d", why)
	}
	held(t, "many, by another", x, "b")
	frees(t, "many", x, "a", true)
	takes(t, "many, by another", x, "b", l...)
}

func TestR1_ManyTransactions(t *testing.T) {
	const n = 1 << 16
	txs := many(n)
	x := locks.New()
	for _, tx := range txs {
		if why := x.Take(tx, []locks.Want{read("x"), write(tx)}); why != api.OK {
			t.Fatalf("%s: %d", tx, why)
		}
		if why := x.Take(tx, []locks.Want{write("x")}); (why == api.Busy) != (tx != txs[0]) {
			t.Fatalf("%s: %d", tx, why)
		}
		if tx == txs[0] {
			x.Free(tx)
			takes(t, "the first", x, tx, read("x"))
		}
	}
	holders(t, "many", x, "x", txs...)
	all(t, "many", x, txs...)
	writer(t, "many", x, "x", "")
	for _, tx := range txs[1:] {
		if !x.Free(tx) {
			t.Fatalf("Free(%s): false", tx)
		}
	}
	takes(t, "one is left", x, txs[0], write("x"))
}

// A row has room behind its length, in which there is something: it is neither read nor written.
func TestR2_TheRowStays(t *testing.T) {
	for _, n := range []int{0, 1, 2, 4} {
		for _, tx := range []string{"", "a", "b"} {
			x := locks.New()
			takes(t, "another", x, "b", write("p"), read("q"))
			room := []locks.Want{read("s"), write("q"), read("p"), write("r"), write("behind"), read("far behind")}
			was := slices.Clone(room)
			x.Take(tx, room[:n])
			x.Take(tx, room[:n])
			x.Free(tx)
			x.Take(tx, room[:n])
			if !slices.Equal(room, was) {
				t.Errorf("Take(%q) of %d: %v became %v", tx, n, was, room)
			}
			for _, w := range room[4:] {
				holders(t, "behind the row", x, w.Case)
			}
		}
	}
}

func TestR2_TheRowIsNotKept(t *testing.T) {
	x := locks.New()
	l := []locks.Want{read("r"), write("w")}
	takes(t, "a row", x, "a", l...)
	before := told(x, []string{"b"}, []string{"z"})
	l[0], l[1] = write("z"), read("z")
	if after := told(x, []string{"b"}, []string{"z"}); after != before {
		t.Errorf("%s became %s", before, after)
	}
	takes(t, "a row that was turned", x, "b", l...)
	held(t, "a row that was turned", x, "b", "z")
	held(t, "a row that was turned", x, "a", "r", "w")
}

// spoil writes all over a list and the room behind it.
func spoil(list []string) {
	list = list[:cap(list)]
	for i := range list {
		list[i] = "spoilt"
	}
}

func TestR2_AnswersAreNewMemory(t *testing.T) {
	x := locks.New()
	for n := range 12 {
		for _, tx := range many(n) {
			takes(t, "a reader", x, tx, read("x"), read("y"), read("n"+fmt.Sprint(n)))
		}
		before := told(x, []string{"z"}, []string{"z"})
		for _, ask := range []func() []string{
			x.All,
			func() []string { return x.Holders("x") },
			func() []string { return x.Held("00000000") },
			func() []string { return x.Holders("nobody") },
			func() []string { return x.Held("nobody") },
		} {
			one, two := ask(), ask()
			want := slices.Clone(two)
			spoil(one)
			if !slices.Equal(two, want) || !slices.Equal(ask(), want) {
				t.Errorf("an answer shares memory with another: %q, %q; not %q", two, ask(), want)
			}
			spoil(append(two, "grown"))
		}
		if after := told(x, []string{"z"}, []string{"z"}); after != before {
			t.Errorf("%s became %s", before, after)
		}
	}
}

// An answer is not turned by what is done behind it.
func TestR2_AnswersStay(t *testing.T) {
	x := locks.New()
	takes(t, "some", x, "a", read("x"), read("y"))
	takes(t, "some", x, "b", read("x"))
	who, of, each := x.Holders("x"), x.Held("a"), x.All()
	frees(t, "some", x, "a", true)
	takes(t, "others", x, "c", read("x"), write("y"), write("z"))
	if got := fmt.Sprint(who, of, each); got != "[a b] [x y] [a b]" {
		t.Errorf("an answer went along: %s", got)
	}
}

// Beside false there is nothing.
func TestR3_NothingBesideFalse(t *testing.T) {
	x := locks.New()
	takes(t, "readers", x, "a", read("x"), write("w"))
	takes(t, "readers", x, "b", read("x"))
	takes(t, "a reader", x, "b", read("y"))
	for _, name := range []string{"", "x", "y", "z"} {
		if who, ok := x.Writer(name); who != "" || ok {
			t.Errorf("Writer(%q): %q, %t", name, who, ok)
		}
	}
}

// nil and empty rows mean the same.
func TestR4_NoneAndEmpty(t *testing.T) {
	for _, l := range [][]locks.Want{nil, {}, make([]locks.Want, 0, 4), []locks.Want{write("x"), write("y")}[:0]} {
		x := locks.New()
		takes(t, "nothing", x, "a", l...)
		refuses(t, "nothing", x, api.ErrArg, "", l...)
		all(t, "nothing", x)
		frees(t, "nothing", x, "a", false)
		takes(t, "one", x, "b", write("x"))
		takes(t, "nothing beside one", x, "a", l...)
		takes(t, "nothing beside one", x, "b", l...)
		all(t, "nothing beside one", x, "b")
		writer(t, "nothing beside one", x, "x", "b")
	}
}

// The same that is held answers the same, in whatever order it was taken, whatever was freed ahead and how often it
// is asked.
func TestR4_SameAnswers(t *testing.T) {
	r := rand.New(rand.NewSource(4))
	want := ""
	for range 40 {
		x := locks.New()
		for k := range r.Intn(30) {
			takes(t, "ahead", x, fmt.Sprint("ahead", k), read("ahead"), read("x"), write(fmt.Sprint(k)))
		}
		for k := range 30 {
			x.Free(fmt.Sprint("ahead", k))
		}
		row := oddNames()
		r.Shuffle(len(row), func(i, j int) { row[i], row[j] = row[j], row[i] })
		for _, tx := range row {
			l := []locks.Want{read("x"), write("w" + tx), read("y"), read("x")}
			r.Shuffle(len(l), func(i, j int) { l[i], l[j] = l[j], l[i] })
			takes(t, "all", x, tx, l...)
		}
		got := told(x, nil, []string{"ahead", "0"})
		if want == "" {
			want = got
		}
		if got != want || told(x, nil, []string{"ahead", "0"}) != want {
			t.Fatalf("%s; not %s", got, want)
		}
	}
}

// What is held in one table is nothing to another.
func TestR4_TablesApart(t *testing.T) {
	x, y := locks.New(), locks.New()
	takes(t, "the first", x, "a", write("x"))
	all(t, "the second", y)
	holders(t, "the second", y, "x")
	takes(t, "the second", y, "b", write("x"))
	frees(t, "the second", y, "a", false)
	writer(t, "the first", x, "x", "a")
	frees(t, "the first", x, "a", true)
	writer(t, "the second", y, "x", "b")
}

// Texts that look alike are not the same.
func TestR5_TextsAreBytes(t *testing.T) {
	x := locks.New()
	alike := []string{"é", "e\u0301", "\xc3", "\xe9", "É", "\ufffd", "\xff", "a", "A", "a ", " a", "a\x00"}
	for k, tx := range alike {
		takes(t, "alike", x, tx, write(alike[len(alike)-1-k]))
	}
	for k, tx := range alike {
		held(t, "alike", x, tx, alike[len(alike)-1-k])
		writer(t, "alike", x, alike[len(alike)-1-k], tx)
	}
	if got := len(x.All()); got != len(alike) {
		t.Errorf("%d; not %d", got, len(alike))
	}
}
