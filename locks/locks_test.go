package locks_test

import (
	"bytes"
	"fmt"
	"math/rand"
	"slices"
	"strings"
	"testing"

	"conclave/api"
	"conclave/locks"
)

func read(name string) locks.Want  { return locks.Want{Case: name} }
func write(name string) locks.Want { return locks.Want{Case: name, Write: true} }

// told answers in words what the table says of everybody, and of the transactions and cases that are named.
func told(x *locks.Table, txs, names []string) string {
	txs = append(x.All(), txs...)
	var b strings.Builder
	fmt.Fprintf(&b, "%q", x.All())
	for _, tx := range txs {
		fmt.Fprintf(&b, " %q: %q", tx, x.Held(tx))
		names = append(x.Held(tx), names...)
	}
	slices.Sort(names)
	for _, name := range slices.Compact(names) {
		who, ok := x.Writer(name)
		fmt.Fprintf(&b, " %q: %q %q %t", name, x.Holders(name), who, ok)
	}
	return b.String()
}

// takes looks whether Take is answered OK.
func takes(t *testing.T, what string, x *locks.Table, tx string, l ...locks.Want) {
	t.Helper()
	if why := x.Take(tx, l); why != api.OK {
		t.Errorf("%s: Take(%.20q, %.200v): %d; not OK", what, tx, l, why)
	}
}

// refuses looks whether Take is answered want, and turns nothing.
func refuses(t *testing.T, what string, x *locks.Table, want api.Errno, tx string, l ...locks.Want) {
	t.Helper()
	names := []string{""}
	for _, w := range l {
		names = append(names, w.Case)
	}
	before := told(x, []string{tx, ""}, names)
	if why := x.Take(tx, l); why != want {
		t.Errorf("%s: Take(%.20q, %.200v): %d; not %d", what, tx, l, why, want)
	}
	if after := told(x, []string{tx, ""}, names); after != before {
		t.Errorf("%s: Take(%.20q, %.200v) was refused and turned %.300s into %.300s", what, tx, l, before, after)
	}
}

// frees looks whether Free answers want.
func frees(t *testing.T, what string, x *locks.Table, tx string, want bool) {
	t.Helper()
	if got := x.Free(tx); got != want {
		t.Errorf("%s: Free(%.20q): %t", what, tx, got)
	}
	held(t, what, x, tx)
}

func holders(t *testing.T, what string, x *locks.Table, name string, want ...string) {
	t.Helper()
	if got := x.Holders(name); !slices.Equal(got, want) {
		t.Errorf("%s: Holders(%.20q): %.300q; not %.300q", what, name, got, want)
	}
}

// writer looks whether want holds the case to write; nobody, if want is empty.
func writer(t *testing.T, what string, x *locks.Table, name, want string) {
	t.Helper()
	if got, ok := x.Writer(name); got != want || ok != (want != "") {
		t.Errorf("%s: Writer(%.20q): %.20q, %t; not %.20q", what, name, got, ok, want)
	}
}

func held(t *testing.T, what string, x *locks.Table, tx string, want ...string) {
	t.Helper()
	if got := x.Held(tx); !slices.Equal(got, want) {
		t.Errorf("%s: Held(%.20q): %.300q; not %.300q", what, tx, got, want)
	}
}

func all(t *testing.T, what string, x *locks.Table, want ...string) {
	t.Helper()
	if got := x.All(); !slices.Equal(got, want) {
		t.Errorf("%s: All: %.300q; not %.300q", what, got, want)
	}
}

func TestP15_1_Runs(t *testing.T) {
	x := locks.New()
	takes(t, "the first run", x, "a", write("x"))
	refuses(t, "the first run", x, api.Busy, "b", read("x"))
	x = locks.New()
	takes(t, "the second run", x, "a", read("x"))
	takes(t, "the second run", x, "b", read("x"))
	refuses(t, "the second run", x, api.Busy, "a", write("x"))
}

func TestP15_1_Examples(t *testing.T) {
	x := locks.New()
	takes(t, "nothing", x, "a")
	held(t, "nothing", x, "a")
	all(t, "nothing", x)
	takes(t, "one to write", x, "a", write("x"))
	refuses(t, "the last of three", x, api.Busy, "b", read("v"), write("w"), read("x"))
	held(t, "refused", x, "b")
	holders(t, "refused", x, "v")
	holders(t, "refused", x, "w")
	all(t, "refused", x, "a")
}

func TestP15_1_New(t *testing.T) {
	x := locks.New()
	if x == nil {
		t.Fatal("New: nil")
	}
	all(t, "a new one", x)
	for _, s := range []string{"", "a", "x"} {
		holders(t, "a new one", x, s)
		writer(t, "a new one", x, s, "")
		held(t, "a new one", x, s)
		frees(t, "a new one", x, s, false)
	}
}

func TestP15_1_NoTransaction(t *testing.T) {
	x := locks.New()
	rows := [][]locks.Want{nil, {}, {read("x")}, {write("x")}, {read("")}, {write("")}, {read("y"), write("z")}, {read("r"), write("w")}, {write("r"), read("w"), read("x")}}
	for _, l := range rows {
		refuses(t, "an empty table", x, api.ErrArg, "", l...)
	}
	takes(t, "some are held", x, "a", write("w"), read("r"), write(""))
	for _, l := range rows {
		refuses(t, "some are held by another", x, api.ErrArg, "", l...)
	}
	frees(t, "nobody", x, "", false)
	all(t, "nobody", x, "a")
}

// The empty text is a case like any other.
func TestP15_1_EmptyCase(t *testing.T) {
	x := locks.New()
	takes(t, "to read", x, "a", read(""))
	held(t, "to read", x, "a", "")
	holders(t, "to read", x, "", "a")
	writer(t, "to read", x, "", "")
	all(t, "to read", x, "a")
	takes(t, "read by two", x, "b", read(""), read("x"))
	held(t, "read by two", x, "b", "", "x")
	holders(t, "read by two", x, "", "a", "b")
	refuses(t, "read by two", x, api.Busy, "a", write(""))
	frees(t, "read by two", x, "b", true)
	takes(t, "to write", x, "a", write(""))
	writer(t, "to write", x, "", "a")
	refuses(t, "to write", x, api.Busy, "b", read("x"), read(""))
	frees(t, "to write", x, "a", true)
	frees(t, "to write", x, "a", false)
	holders(t, "freed", x, "")
	takes(t, "freed", x, "b", write(""))
}

// One case, whoever holds it and however, wanted by a to read and to write.
func TestP15_1_OneCase(t *testing.T) {
	type by struct {
		tx   string
		want locks.Want
	}
	r, w := read("x"), write("x")
	for what, c := range map[string]struct {
		ahead       []by
		read, write api.Errno
		writes      bool // a does, behind a Take to read
	}{
		"nobody":                             {nil, api.OK, api.OK, false},
		"another case":                       {[]by{{"b", write("y")}}, api.OK, api.OK, false},
		"itself to read":                     {[]by{{"a", r}}, api.OK, api.OK, false},
		"itself to write":                    {[]by{{"a", w}}, api.OK, api.OK, true},
		"itself to read, then to write":      {[]by{{"a", r}, {"a", w}}, api.OK, api.OK, true},
		"itself to write, then to read":      {[]by{{"a", w}, {"a", r}}, api.OK, api.OK, true},
		"another to read":                    {[]by{{"b", r}}, api.OK, api.Busy, false},
		"another to write":                   {[]by{{"b", w}}, api.Busy, api.Busy, false},
		"another to read, then to write":     {[]by{{"b", r}, {"b", w}}, api.Busy, api.Busy, false},
		"another to write, then to read":     {[]by{{"b", w}, {"b", r}}, api.Busy, api.Busy, false},
		"two others to read":                 {[]by{{"b", r}, {"c", r}}, api.OK, api.Busy, false},
		"three others to read":               {[]by{{"d", r}, {"b", r}, {"c", r}}, api.OK, api.Busy, false},
		"itself and another to read":         {[]by{{"a", r}, {"b", r}}, api.OK, api.Busy, false},
		"another and itself to read":         {[]by{{"b", r}, {"a", r}}, api.OK, api.Busy, false},
		"itself among several to read":       {[]by{{"c", r}, {"a", r}, {"b", r}}, api.OK, api.Busy, false},
		"one whose name a begins, to read":   {[]by{{"aa", r}}, api.OK, api.Busy, false},
		"one whose name a begins, to write":  {[]by{{"aa", w}}, api.Busy, api.Busy, false},
		"one of the other letters, to write": {[]by{{"A", w}}, api.Busy, api.Busy, false},
	} {
		for _, want := range []locks.Want{r, w} {
			x := locks.New()
			for _, h := range c.ahead {
				takes(t, what, x, h.tx, h.want)
			}
			why := c.read
			if want.Write {
				why = c.write
			}
			if why != api.OK {
				refuses(t, what, x, why, "a", want)
				refuses(t, what+", behind one that is free", x, why, "a", write("free"), want)
				refuses(t, what+", ahead of one that is free", x, why, "a", want, read("free"))
				continue
			}
			takes(t, what, x, "a", want)
			if !slices.Contains(x.Holders("x"), "a") || !slices.Contains(x.Held("a"), "x") {
				t.Errorf("%s: a does not hold it: %q, %q", what, x.Holders("x"), x.Held("a"))
			}
			if c.writes || want.Write {
				writer(t, what, x, "x", "a")
				holders(t, what, x, "x", "a")
			} else {
				writer(t, what, x, "x", "")
			}
		}
	}
}

func TestP15_1_Several(t *testing.T) {
	x := locks.New()
	takes(t, "three", x, "a", read("r"), write("w"), read("s"))
	held(t, "three", x, "a", "r", "s", "w")
	for name, want := range map[string]string{"r": "", "s": "", "w": "a"} {
		holders(t, "three", x, name, "a")
		writer(t, "three", x, name, want)
	}
	takes(t, "others beside", x, "b", write("u"), read("r"), write("v"), read("s"))
	held(t, "others beside", x, "b", "r", "s", "u", "v")
	held(t, "others beside", x, "a", "r", "s", "w")
	takes(t, "one more", x, "a", read("t"))
	held(t, "what it held it still holds", x, "a", "r", "s", "t", "w")
	writer(t, "what it held it still holds", x, "w", "a")
	holders(t, "what it held it still holds", x, "r", "a", "b")
	takes(t, "nothing", x, "a")
	held(t, "nothing, by one who holds", x, "a", "r", "s", "t", "w")
	writer(t, "nothing, by one who holds", x, "w", "a")
}

// A case that comes twice in one row is held to write if one of them wants it so.
func TestP15_1_NamedTwice(t *testing.T) {
	for what, c := range map[string]struct {
		l      []locks.Want
		writes bool
	}{
		"read, read":             {[]locks.Want{read("x"), read("x")}, false},
		"read, write":            {[]locks.Want{read("x"), write("x")}, true},
		"write, read":            {[]locks.Want{write("x"), read("x")}, true},
		"write, write":           {[]locks.Want{write("x"), write("x")}, true},
		"write, another, read":   {[]locks.Want{write("x"), read("y"), read("x")}, true},
		"read, another, write":   {[]locks.Want{read("x"), write("y"), write("x")}, true},
		"read, write, read":      {[]locks.Want{read("x"), write("x"), read("x")}, true},
		"write, read, read":      {[]locks.Want{write("x"), read("x"), read("x")}, true},
		"read, read, read, read": {[]locks.Want{read("x"), read("x"), read("x"), read("x")}, false},
	} {
		x := locks.New()
		takes(t, what, x, "a", c.l...)
		holders(t, what, x, "x", "a")
		want := ""
		if c.writes {
			want = "a"
		}
		writer(t, what, x, "x", want)
		frees(t, what, x, "a", true)
		holders(t, what+", freed", x, "x")
		all(t, what+", freed", x)
		takes(t, what+", read by another", x, "b", read("x"))
		if c.writes {
			refuses(t, what+", read by another", x, api.Busy, "a", c.l...)
		} else {
			takes(t, what+", read by another", x, "a", c.l...)
			holders(t, what+", read by another", x, "x", "a", "b")
		}
	}
}

func TestP15_1_ReaderWrites(t *testing.T) {
	x := locks.New()
	takes(t, "alone", x, "a", read("x"))
	takes(t, "alone, to write", x, "a", write("x"))
	writer(t, "alone, to write", x, "x", "a")
	refuses(t, "alone, to write", x, api.Busy, "b", read("x"))
	takes(t, "to read once more", x, "a", read("x"), read("x"))
	writer(t, "to read once more", x, "x", "a")
	refuses(t, "to read once more", x, api.Busy, "b", read("x"))
	frees(t, "freed", x, "a", true)
	takes(t, "two", x, "a", read("x"))
	takes(t, "two", x, "b", read("x"))
	refuses(t, "two", x, api.Busy, "a", write("x"))
	refuses(t, "two", x, api.Busy, "b", write("x"))
	holders(t, "two", x, "x", "a", "b")
	frees(t, "the other one is gone", x, "a", true)
	takes(t, "the other one is gone", x, "b", write("x"))
	writer(t, "the other one is gone", x, "x", "b")
}

// Wherever the busy one stands in the row, nothing of the row is taken, and nothing that was only read is written.
func TestP15_1_AllOrNothing(t *testing.T) {
	for at := range 5 {
		for _, busy := range []locks.Want{read("w"), write("w"), write("r")} {
			x := locks.New()
			takes(t, "another", x, "b", write("w"), read("r"))
			takes(t, "what it held ahead", x, "a", read("p"), write("q"), read("r"))
			l := slices.Insert([]locks.Want{write("p"), read("q"), write("u"), read("v")}, at, busy)
			what := fmt.Sprintf("%v at %d", busy, at)
			refuses(t, what, x, api.Busy, "a", l...)
			held(t, what, x, "a", "p", "q", "r")
			writer(t, what, x, "p", "")
			writer(t, what, x, "q", "a")
			takes(t, what+": what was refused is free for others", x, "c", read("p"), write("u"), write("v"))
			frees(t, what, x, "b", true)
			refuses(t, what, x, api.Busy, "a", l...)
			frees(t, what, x, "c", true)
			takes(t, what+", when all are gone", x, "a", l...)
			writer(t, what+", when all are gone", x, "p", "a")
			writer(t, what+", when all are gone", x, "q", "a")
			writer(t, what+", when all are gone", x, "v", "")
		}
	}
}

func TestP15_1_Free(t *testing.T) {
	x := locks.New()
	frees(t, "nobody", x, "a", false)
	takes(t, "nothing", x, "a")
	frees(t, "one who took nothing", x, "a", false)
	takes(t, "three", x, "a", read("r"), write("v"), write("w"))
	refuses(t, "refused", x, api.Busy, "c", read("z"), read("v"))
	frees(t, "one who was refused", x, "c", false)
	takes(t, "another", x, "b", read("r"), write("y"))
	for _, no := range []string{"", "A", "aa", "c", "r", "w", "a\x00"} {
		frees(t, "one who holds nothing", x, no, false)
	}
	held(t, "others are freed", x, "a", "r", "v", "w")
	frees(t, "three", x, "a", true)
	frees(t, "three, twice", x, "a", false)
	all(t, "three", x, "b")
	held(t, "three", x, "b", "r", "y")
	holders(t, "three", x, "r", "b")
	writer(t, "three", x, "y", "b")
	for _, name := range []string{"v", "w"} {
		holders(t, "three", x, name)
		writer(t, "three", x, name, "")
	}
	takes(t, "what was freed", x, "c", write("v"), read("w"), read("r"))
	takes(t, "what was freed", x, "b", read("w"))
	refuses(t, "what was freed", x, api.Busy, "a", read("v"))
	frees(t, "one", x, "b", true)
	takes(t, "by itself again", x, "b", write("y"))
	writer(t, "by itself again", x, "y", "b")
}

// What was held to write ahead of a Free is forgotten with it.
func TestP15_1_FreeForgetsWriting(t *testing.T) {
	x := locks.New()
	takes(t, "to write", x, "a", write("x"))
	frees(t, "to write", x, "a", true)
	takes(t, "to read", x, "a", read("x"))
	writer(t, "to read", x, "x", "")
	takes(t, "to read", x, "b", read("x"))
	holders(t, "to read", x, "x", "a", "b")
}

// oddNames: rising in order of bytes; some begin others, letters of both kinds, bytes above 127.
func oddNames() []string {
	return []string{"\x00", "\x00\x00", " ", "-1", "0", "00", "1", "10", "9", "A", "AA", "Aa", "B", "Z", "a", "a\x00", "a b", "aA", "aa", "aaa", "ab", "b", "z", "zz", "~", "\x7f", "\x80", "\xc3", "é", "éa", "ê", "ý", "日", "\xfe", "\xff", "\xff\x00", "\xff\xff"}
}

func TestP15_2_NamesRise(t *testing.T) {
	for i, s := range oddNames()[1:] {
		if bytes.Compare([]byte(oddNames()[i]), []byte(s)) >= 0 {
			t.Errorf("%q is not above %q", s, oddNames()[i])
		}
	}
}

// However many there are and in whatever order they come: each list rises by bytes.
func TestP15_2_InOrder(t *testing.T) {
	r := rand.New(rand.NewSource(15))
	for range 50 {
		mixed := oddNames()
		r.Shuffle(len(mixed), func(i, j int) { mixed[i], mixed[j] = mixed[j], mixed[i] })
		for _, n := range []int{0, 1, 2, 3, 8, 9, len(mixed)} {
			some := mixed[:n]
			want := slices.Clone(some)
			slices.SortFunc(want, func(a, b string) int { return bytes.Compare([]byte(a), []byte(b)) })
			x, y := locks.New(), locks.New()
			var l []locks.Want
			for i, s := range some {
				takes(t, "readers", x, s, read("one"))
				l = append(l, locks.Want{Case: s, Write: i%2 > 0})
			}
			holders(t, "readers", x, "one", want...)
			all(t, "readers", x, want...)
			takes(t, "cases", y, "tx", l...)
			held(t, "cases", y, "tx", want...)
		}
	}
}

func TestP15_2_EmptyCaseIsFirst(t *testing.T) {
	x := locks.New()
	takes(t, "the empty case", x, "a", read("\x00"), read("a"), write(""))
	held(t, "the empty case", x, "a", "", "\x00", "a")
}

func TestP15_2_Writer(t *testing.T) {
	for _, tx := range oddNames() {
		for _, name := range append(oddNames(), "") {
			x := locks.New()
			takes(t, "a reader", x, tx, read(name))
			writer(t, "a reader", x, name, "")
			takes(t, "a writer", x, tx, write(name))
			writer(t, "a writer", x, name, tx)
			holders(t, "a writer", x, name, tx)
			writer(t, "another case", x, name+"x", "")
			holders(t, "another case", x, name+"x")
			frees(t, "freed", x, tx, true)
			writer(t, "freed", x, name, "")
		}
	}
	x := locks.New()
	for _, tx := range oddNames() {
		takes(t, "readers", x, tx, read("x"), write(tx))
	}
	writer(t, "readers", x, "x", "")
	for _, tx := range oddNames() {
		writer(t, "one each", x, tx, tx)
	}
}

// A transaction and a case may have one name.
func TestP15_2_SameNames(t *testing.T) {
	x := locks.New()
	takes(t, "a holds b", x, "a", write("b"))
	takes(t, "b holds a", x, "b", read("a"))
	holders(t, "both", x, "a", "b")
	holders(t, "both", x, "b", "a")
	held(t, "both", x, "a", "b")
	held(t, "both", x, "b", "a")
	takes(t, "a holds a", x, "a", read("a"))
	holders(t, "all", x, "a", "a", "b")
	held(t, "all", x, "a", "a", "b")
	frees(t, "b is freed", x, "b", true)
	holders(t, "b is freed", x, "b", "a")
	all(t, "b is freed", x, "a")
}

// One that is freed is in no list any more; those that are left stand as they stood.
func TestP15_2_FreedOneByOne(t *testing.T) {
	r := rand.New(rand.NewSource(16))
	x := locks.New()
	left := oddNames()
	for _, tx := range left {
		takes(t, "all", x, tx, read("x"), write("w"+tx))
	}
	for len(left) > 0 {
		k := r.Intn(len(left))
		gone := left[k]
		left = slices.Delete(left, k, k+1)
		frees(t, "one", x, gone, true)
		frees(t, "one, twice", x, gone, false)
		all(t, "one by one", x, left...)
		holders(t, "one by one", x, "x", left...)
		holders(t, "its own", x, "w"+gone)
		writer(t, "its own", x, "w"+gone, "")
		for _, tx := range left {
			held(t, "those that are left", x, tx, "w"+tx, "x")
			writer(t, "those that are left", x, "w"+tx, tx)
		}
	}
}
