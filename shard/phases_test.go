package shard_test

import (
	"fmt"
	"testing"

	"conclave/api"
	"conclave/shard"
)

// pair answers a shard with the loan a and the note b.
func pair(t *testing.T) *shard.Shard {
	t.Helper()
	s := began(t, 0, 256)
	once(t, s, `yes ["" ""]`, create("a", "loan"), create("b", "note"))
	return s
}

// Gone ahead of Later and No: whichever of its cases is not owned, or frozen.
func TestP16_3_OnceGone(t *testing.T) {
	s := began(t, 10, 20)
	in, out, cold := one[12], one[9], one[15]
	once(t, s, `yes ["" ""]`, create(in, "note"), create(cold, "note"))
	does(t, s, "done data", freezeOf(15, 16))
	for _, far := range []string{out, one[20], one[0], one[255], cold, ofHash(15, 2)[1]} {
		for _, o := range []api.Op{create(far, "note"), create(far, "zz"), set(far, "n", 1), add(far, "n", 99), fire(far, "zz"), read(far)} {
			both(t, s, "gone", o)
			both(t, s, "gone", read(in), o)
			both(t, s, "gone", o, read(in))
			both(t, s, "gone", read("zz"+in), o)
			both(t, s, "gone", set(in, "n", 1), set(in, "n", 10), o)
		}
	}
	prepare(t, s, `yes [""]`, "t", set(in, "n", 2))
	both(t, s, "gone", read(in), read(out))
	both(t, s, "gone", read(in), read(cold))
	both(t, s, "later", read(in))
	does(t, s, "done", commitOf("t"))
	once(t, s, `yes ["note n=2"]`, read(in))
}

// Later ahead of No, and ahead of what would go well.
func TestP16_3_OnceLater(t *testing.T) {
	s := pair(t)
	prepare(t, s, `yes ["" "note n=0"]`, "t", set("a", "sum", 7), read("b"))
	both(t, s, "later", read("a"))
	both(t, s, "later", set("a", "sum", 101))
	both(t, s, "later", read("zz"), read("a"))
	both(t, s, "later", read("b"), add("b", "n", 1))
	both(t, s, "later", create("b", "note"))
	same(t, s, `yes ["note n=0"]`, onceOf(read("b")))
	once(t, s, `yes ["note n=0" ""]`, read("b"), create("c", "bare"))
	both(t, s, "no 0 30", read("zz"), read("b"))
	does(t, s, "done", abortOf("t"))
	once(t, s, `yes ["loan sum=5" ""]`, read("a"), add("b", "n", 1))
}

// A Once is nobody's: the transaction that it is called by does not help it past that one's locks, and it holds nothing
// behind.
func TestP16_3_OnceIsNobodys(t *testing.T) {
	s := pair(t)
	prepare(t, s, `yes [""]`, "t", set("a", "sum", 7))
	for _, tx := range []string{"t", "", "u"} {
		same(t, s, "later", shard.Cmd{Kind: shard.Once, Tx: tx, Ops: []api.Op{read("a")}})
		does(t, s, `yes [""]`, shard.Cmd{Kind: shard.Once, Tx: tx, Ops: []api.Op{set("b", "n", 3)}})
		same(t, s, "no 0 34", shard.Cmd{Kind: shard.Once, Tx: tx, Ops: []api.Op{set("b", "n", 10)}})
		does(t, s, `yes [""]`, shard.Cmd{Kind: shard.Once, Tx: tx, Ops: []api.Op{set("b", "n", 4)}})
	}
	outcome(t, s, "u", api.Open)
	prepare(t, s, `yes [""]`, "u", set("b", "n", 5))
	prepared(t, s, "t", "u")
}

// Parts of a command that its Kind gives no meaning count for nothing.
func TestP16_3_OtherPartsCountForNothing(t *testing.T) {
	s := pair(t)
	full := shard.Cmd{Tx: "t", Ops: []api.Op{set("a", "sum", 7)}, At: []int{1}, Lo: 9, Hi: -1, Data: []byte("data")}
	of := func(kind int, lo, hi int, l ...api.Op) shard.Cmd {
		c := full
		c.Kind, c.Lo, c.Hi, c.Ops = kind, lo, hi, l
		return c
	}
	does(t, s, `yes [""]`, of(shard.Once, 9, -1, set("a", "sum", 7)))
	does(t, s, `yes [""]`, of(shard.Prepare, 9, -1, set("a", "sum", 8)))
	does(t, s, "done", of(shard.Commit, 9, -1))
	does(t, s, "done", of(shard.Commit, 257, 0, api.Op{Kind: 9}))
	does(t, s, "none", of(shard.Abort, 9, -1))
	does(t, s, "done data", of(shard.Freeze, 0, 256, api.Op{Kind: 9}))
	does(t, s, "done", of(shard.Leave, 0, 256, api.Op{Kind: 9}))
	has(t, s)
}

func TestP16_3_PrepareKeepsApart(t *testing.T) {
	s := pair(t)
	before := seen(s)
	prepare(t, s, `yes ["" "loan sum=60 *big" "" ""]`, "t", set("a", "sum", 60), read("a"), create("c", "bare"), fire("a", "pay"))
	prepared(t, s, "t")
	outcome(t, s, "t", api.Open)
	has(t, s, "a", "b")
	is(t, s, "a", "loan sum=5")
	is(t, s, "c", "")
	does(t, s, "done", abortOf("t"))
	if after := seen(s); after != before {
		t.Errorf("%s became %s", before, after)
	}
	prepared(t, s)
	has(t, s, "a", "b")
	is(t, s, "a", "loan sum=5")
	outcome(t, s, "t", api.Aborted)
}

// The answer is the first one's, whatever is asked again, but for what is no command.
func TestP16_3_PrepareAgain(t *testing.T) {
	s := pair(t)
	first := `yes ["" "loan sum=7" "note n=0"]`
	prepare(t, s, first, "t", set("a", "sum", 7), read("a"), read("b"))
	for range 2 {
		same(t, s, first, prepareOf("t", set("a", "sum", 7), read("a"), read("b")))
		same(t, s, first, prepareOf("t", read("b")))
		same(t, s, first, prepareOf("t", read("zz")))
		same(t, s, first, prepareOf("t", create("free", "note")))
		same(t, s, first, shard.Cmd{Kind: shard.Prepare, Tx: "t", Ops: []api.Op{read("zz")}, At: []int{7}})
		same(t, s, "none", prepareOf("t"))
		same(t, s, "none", prepareOf("t", api.Op{Kind: 6, Case: "a"}))
	}
	once(t, s, `yes ["" "note n=0"]`, create("d", "bare"), read("b"))
	same(t, s, first, prepareOf("t", read("b")))
	does(t, s, "done", commitOf("t"))
	same(t, s, "done", prepareOf("t", set("a", "sum", 9)))
	is(t, s, "a", "loan sum=7")
	is(t, s, "free", "")
}

// What others do beside it does not turn the answer: the shard may even be full by then.
func TestP16_3_PrepareAgainWhenItIsFull(t *testing.T) {
	s := filled(t, 31)
	first := `yes ["" "" "note n=2"]`
	prepare(t, s, first, "t", create("x", "note"), set("x", "n", 2), read("x"))
	once(t, s, `yes [""]`, create("y", "loan"))
	once(t, s, "no 0 34", create("z", "loan"))
	same(t, s, first, prepareOf("t", read("y")))
	has(t, s, append(names(31), "y")...)
	does(t, s, "done", commitOf("t"))
	has(t, s, append(names(31), "x", "y")...)
	is(t, s, "x", "note n=2")
	once(t, s, "no 0 34", create("z", "loan"))
	once(t, s, "no 0 33", create("x", "loan"))
}

func TestP16_3_PrepareOfOneWithAnOutcome(t *testing.T) {
	s := pair(t)
	prepare(t, s, `yes [""]`, "t", set("a", "sum", 7))
	does(t, s, "done", commitOf("t"))
	prepare(t, s, `yes [""]`, "u", set("a", "sum", 8))
	does(t, s, "done", abortOf("u"))
	does(t, s, "done", abortOf("early"))
	prepare(t, s, `yes [""]`, "held", set("a", "sum", 9))
	does(t, s, "done data", freezeOf(1, 2))
	for _, tx := range []string{"t", "u", "early"} {
		for _, o := range []api.Op{set("a", "sum", 1), read("zz"), read("b"), create("c", "note"), read(one[1])} {
			same(t, s, "done", prepareOf(tx, o))
		}
		same(t, s, "none", prepareOf(tx))
	}
	prepared(t, s, "held")
	is(t, s, "a", "loan sum=7")
}

// A Prepare that is refused takes nothing: neither locks nor its name.
func TestP16_3_PrepareRefusedTakesNothing(t *testing.T) {
	s := pair(t)
	does(t, s, "done data", freezeOf(1, 2))
	prepare(t, s, `yes ["note n=0"]`, "other", read("b"))
	for want, l := range map[string][]api.Op{
		"gone":    {set("a", "sum", 6), create("c", "note"), read(one[1])},
		"later":   {set("a", "sum", 6), create("c", "note"), set("b", "n", 1)},
		"no 2 34": {set("a", "sum", 6), create("c", "note"), set("a", "sum", 101)},
		"no 2 30": {set("a", "sum", 6), create("c", "note"), read("zz")},
	} {
		same(t, s, want, prepareOf("t", l...))
		outcome(t, s, "t", api.Open)
		prepared(t, s, "other")
		same(t, s, `yes ["loan sum=5" "note n=0"]`, onceOf(read("a"), read("b")))
		same(t, s, "none", commitOf("t"))
	}
	prepare(t, s, `yes ["" "" ""]`, "u", set("a", "sum", 6), create("c", "note"), create("zz", "note"))
	does(t, s, "done", abortOf("u"))
	prepare(t, s, `yes ["" ""]`, "t", set("a", "sum", 7), create("c", "note"))
	does(t, s, "done", commitOf("t"))
	is(t, s, "a", "loan sum=7")
	is(t, s, "c", "note n=0")
}

func TestP16_3_Commit(t *testing.T) {
	s := pair(t)
	same(t, s, "none", commitOf("t"))
	prepare(t, s, `yes ["" "" "" "bare *on"]`, "t", set("a", "sum", 60), fire("a", "pay"), create("c", "bare"), read("c"))
	same(t, s, "none", commitOf("tt"))
	same(t, s, "none", commitOf("T"))
	does(t, s, "done", commitOf("t"))
	outcome(t, s, "t", api.Committed)
	prepared(t, s)
	has(t, s, "a", "b", "c")
	is(t, s, "a", "loan sum=60 +pay *big")
	is(t, s, "c", "bare *on")
	once(t, s, `yes ["" "bare *on" "note n=0"]`, set("a", "sum", 1), read("c"), read("b"))
	for range 2 {
		same(t, s, "done", commitOf("t"))
		same(t, s, "none", abortOf("t"))
	}
	is(t, s, "a", "loan sum=1 +pay *big")
	outcome(t, s, "t", api.Committed)
	does(t, s, "done", abortOf("u"))
	same(t, s, "none", commitOf("u"))
	outcome(t, s, "u", api.Aborted)
}

// A Commit frees its own locks and no others.
func TestP16_3_LocksAreFreed(t *testing.T) {
	for _, end := range []func(string) shard.Cmd{commitOf, abortOf} {
		s := pair(t)
		prepare(t, s, `yes ["note n=0"]`, "t", read("b"))
		prepare(t, s, `yes ["note n=0" ""]`, "u", read("b"), set("a", "sum", 7))
		both(t, s, "later", set("b", "n", 1))
		does(t, s, "done", end("t"))
		both(t, s, "later", set("b", "n", 1))
		both(t, s, "later", read("a"))
		prepared(t, s, "u")
		does(t, s, "done", end("u"))
		prepared(t, s)
		once(t, s, `yes ["" ""]`, set("b", "n", 1), set("a", "sum", 3))
	}
}

func TestP16_3_Abort(t *testing.T) {
	s := pair(t)
	prepare(t, s, `yes ["" ""]`, "t", set("a", "sum", 60), create("c", "bare"))
	does(t, s, "done", abortOf("t"))
	outcome(t, s, "t", api.Aborted)
	has(t, s, "a", "b")
	is(t, s, "a", "loan sum=5")
	for range 2 {
		same(t, s, "done", abortOf("t"))
		same(t, s, "none", commitOf("t"))
	}
	once(t, s, `yes ["" ""]`, set("a", "sum", 6), create("c", "note"))
	does(t, s, "done", abortOf("early"))
	outcome(t, s, "early", api.Aborted)
	same(t, s, "done", prepareOf("early", read("a")))
	same(t, s, "none", commitOf("early"))
	prepare(t, s, `yes [""]`, "u", set("a", "sum", 7))
	does(t, s, "done", commitOf("u"))
	same(t, s, "none", abortOf("u"))
	outcome(t, s, "u", api.Committed)
	is(t, s, "a", "loan sum=7")
}

// Aborting one that is not prepared does not touch those that are.
func TestP16_3_AbortOfAnother(t *testing.T) {
	s := pair(t)
	prepare(t, s, `yes [""]`, "t", set("a", "sum", 7))
	for _, tx := range []string{"u", "tt", "T", " t", "a"} {
		does(t, s, "done", abortOf(tx))
		outcome(t, s, tx, api.Aborted)
	}
	prepared(t, s, "t")
	both(t, s, "later", read("a"))
	does(t, s, "done", commitOf("t"))
	is(t, s, "a", "loan sum=7")
}

// Several that are prepared beside each other end in any order.
func TestP16_3_SeveralPrepared(t *testing.T) {
	for n := range 81 {
		s := began(t, 0, 256)
		once(t, s, `yes ["" "" "" ""]`, create("a", "note"), create("b", "note"), create("c", "note"), create("d", "note"))
		txs := []string{"x", "y", "z", "w"}
		for k, c := range []string{"a", "b", "c", "d"} {
			prepare(t, s, `yes ["" ""]`, txs[k], set(c, "n", k+1), create("new"+c, "bare"))
		}
		prepared(t, s, "w", "x", "y", "z")
		want := map[string]string{}
		for k, m := 0, n; k < 4; k, m = k+1, m/3 {
			c := string(rune('a' + (k+n)%4))
			tx := txs[(k+n)%4]
			switch m % 3 {
			case 0:
				does(t, s, "done", commitOf(tx))
				want[c], want["new"+c] = fmt.Sprintf("note n=%d", (k+n)%4+1), "bare *on"
			case 1:
				does(t, s, "done", abortOf(tx))
				want[c], want["new"+c] = "note n=0", ""
			default:
				both(t, s, "later", read(c))
				both(t, s, "later", create("new"+c, "note"))
				want[c], want["new"+c] = "note n=0", ""
			}
		}
		for c, text := range want {
			is(t, s, c, text)
		}
	}
}

// What is no command is None, ahead of all else, and turns nothing.
func TestP16_3_None(t *testing.T) {
	s := pair(t)
	prepare(t, s, `yes [""]`, "held", set("b", "n", 2))
	does(t, s, "done", abortOf("dead"))
	does(t, s, "done data", freezeOf(1, 2))
	r := read("a")
	far := read(one[1])
	five := []api.Op{r, r, r, r, r}
	for _, kind := range []int{shard.Once, shard.Prepare} {
		for _, tx := range []string{"t", "held", "dead"} {
			of := func(l []api.Op, at ...int) shard.Cmd { return shard.Cmd{Kind: kind, Tx: tx, Ops: l, At: at} }
			same(t, s, "none", of(nil))
			same(t, s, "none", of([]api.Op{}))
			same(t, s, "none", of(nil, 1))
			same(t, s, "none", of(five))
			same(t, s, "none", of(five, 0, 1, 2, 3, 4))
			same(t, s, "none", of(make([]api.Op, 5000)))
			same(t, s, "none", of([]api.Op{r}, 1, 2))
			same(t, s, "none", of([]api.Op{far}, 1, 2))
			same(t, s, "none", of([]api.Op{r, r}, 1))
			same(t, s, "none", of([]api.Op{r, r, r, r}, 0, 1, 2, 3, 4))
			for _, no := range []int{0, -1, 6, 7, 1<<32 + 1, -1 << 63, 1<<63 - 1} {
				bad := api.Op{Kind: no, Case: "a", Name: "sum"}
				same(t, s, "none", of([]api.Op{bad}))
				same(t, s, "none", of([]api.Op{bad, r}))
				same(t, s, "none", of([]api.Op{r, r, r, bad}))
				same(t, s, "none", of([]api.Op{far, bad}))
				same(t, s, "none", of([]api.Op{read("b"), bad}))
				same(t, s, "none", of([]api.Op{read("zz"), bad}))
			}
		}
	}
	same(t, s, "none", prepareOf("", r))
	same(t, s, "none", prepareOf("", far))
	same(t, s, "none", commitOf(""))
	same(t, s, "none", abortOf(""))
	for _, kind := range []int{0, -1, 8, 9, 100, 1<<32 + 1, -1 << 63, 1<<63 - 1} {
		same(t, s, "none", shard.Cmd{Kind: kind})
		same(t, s, "none", shard.Cmd{Kind: kind, Tx: "held", Ops: []api.Op{r}, Hi: 256})
	}
	four := []api.Op{r, r, r, r}
	same(t, s, `yes ["loan sum=5" "loan sum=5" "loan sum=5" "loan sum=5"]`, shard.Cmd{Kind: shard.Once, Ops: four, At: []int{0, 1, 2, 3}})
	prepare(t, s, `yes ["loan sum=5" "loan sum=5" "loan sum=5" "loan sum=5"]`, "four", four...)
}
