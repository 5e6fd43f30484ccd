package shard_test

import (
	"bytes"
	"encoding/binary"
	"fmt"
	"math"
	"math/rand"
	"slices"
	"strings"
	"testing"

	"conclave/api"
	"conclave/shard"
	"conclave/sum"
)

// asked is a prepared transaction as it may stand in bytes.
type asked struct {
	tx  string
	ops []api.Op
}

// ended is a transaction with its outcome.
type ended struct {
	tx  string
	how int
}

// parts is what may be a shard's bytes, written apart from package shard; each of them may be wrong.
type parts struct {
	hashes   []byte
	cases    []byte
	count    int // of prepared ones, if it is not as many as there are
	prepared []asked
	outcomes []ended
}

func (p parts) bytes() []byte {
	b := append(slices.Clone(p.hashes), p.cases...)
	if p.count == 0 {
		p.count = len(p.prepared)
	}
	b = four(b, p.count)
	for _, x := range p.prepared {
		b = opsOf(text(b, x.tx), x.ops)
	}
	b = four(b, len(p.outcomes))
	for _, x := range p.outcomes {
		b = append(text(b, x.tx), byte(x.how))
	}
	return b
}

func opsOf(b []byte, l []api.Op) []byte {
	b = four(b, len(l))
	for _, o := range l {
		b = text(text(four(b, o.Kind), o.Case), o.Name)
		b = binary.BigEndian.AppendUint64(b, uint64(o.N))
	}
	return b
}

// all answers how a shard stands to all Hashes, if it stands to all alike.
func all(how int) []byte { return bytes.Repeat([]byte{byte(how)}, 256) }

func load(t *testing.T, what string, b []byte) *shard.Shard {
	t.Helper()
	s, why := shard.Load(ours(t), b)
	if s == nil || why != api.OK {
		t.Fatalf("%s: Load: %v, %d", what, s != nil, why)
	}
	return s
}

func unloaded(t *testing.T, what string, types []api.Type, b []byte) {
	t.Helper()
	if s, why := shard.Load(types, b); s != nil || why != api.ErrForm {
		t.Errorf("%s: Load: %v, %d; not nil, %d", what, s != nil, why, api.ErrForm)
	}
}

// txs: those that shards of these tests know of, and others.
func txs() []string {
	return []string{"", "a", "p", "q", "t", "u", "v", "dead", "done", "\x00", "\xff", strings.Repeat("long", 999)}
}

// kinds answers shards of many kinds.
func kinds(t *testing.T) []*shard.Shard {
	t.Helper()
	some := pair(t)
	cold := pair(t)
	frozen(t, cold, 0, 100)
	frozen(t, cold, 200, 256)
	torn := began(t, 0, 256)
	frozen(t, torn, 7, 9)
	does(t, torn, "done", leaveOf(7, 8))
	ends := began(t, 0, 256)
	for _, tx := range []string{"\xff", "dead", "\x00", strings.Repeat("long", 999)} {
		does(t, ends, "done", abortOf(tx))
	}
	prepare(t, ends, `yes [""]`, "done", create("a", "note"))
	does(t, ends, "done", commitOf("done"))
	open := pair(t)
	prepare(t, open, `yes ["" "loan sum=60 *big" ""]`, "t", set("a", "sum", 60), read("a"), fire("a", "pay"))
	prepare(t, open, `yes ["note n=0"]`, "u", read("b"))
	prepare(t, open, `yes ["note n=0" ""]`, "v", api.Op{Kind: api.Read, Case: "b", Name: "whatever", N: math.MinInt}, api.Op{Kind: api.Create, Case: "new", Name: "bare", N: math.MaxInt})
	crowd := filled(t, 31)
	prepare(t, crowd, `yes ["" "" "note n=-3"]`, "p", create("x", "note"), set("x", "n", -3), read("x"))
	prepare(t, crowd, `yes ["" ""]`, "q", create("y", "note"), add("caaa", "n", 4))
	once(t, crowd, `yes [""]`, create("z", "note"))
	over := load(t, "over", crowd.Save())
	does(t, over, "done", commitOf("p"))
	return []*shard.Shard{began(t, 0, 0), began(t, 0, 256), began(t, 9, 10), began(t, 100, 200), some, cold, torn, ends, open, crowd, over, everything(t)}
}

// everything answers a shard with something of all.
func everything(t *testing.T) *shard.Shard {
	t.Helper()
	s := began(t, 0, 256)
	once(t, s, `yes ["" "" ""]`, create(one[10], "note"), create(one[11], "loan"), create(one[12], "bare"))
	once(t, s, `yes ["" "" ""]`, create(one[20], "note"), create(one[21], "loan"), create(one[30], "note"))
	prepare(t, s, `yes ["" "note n=-7"]`, "p", set(one[10], "n", -7), read(one[10]))
	prepare(t, s, `yes ["" "" "loan sum=99 +pay *big"]`, "q", set(one[11], "sum", 99), fire(one[11], "pay"), read(one[11]))
	prepare(t, s, `yes ["bare *on" ""]`, "t", read(one[12]), create(ofHash(12, 2)[1], "bare"))
	prepare(t, s, `yes ["bare *on"]`, "u", read(one[12]))
	prepare(t, s, `yes [""]`, "done", set(one[20], "n", 9))
	prepare(t, s, `yes [""]`, "v", set(one[21], "sum", 9))
	does(t, s, "done", commitOf("done"))
	does(t, s, "done", abortOf("v"))
	does(t, s, "done", abortOf("dead"))
	frozen(t, s, 20, 25)
	frozen(t, s, 30, 40)
	does(t, s, "done", leaveOf(30, 31))
	return s
}

// goOn answers a row of commands that ask for all that a shard may be.
func goOn() []shard.Cmd {
	var l []shard.Cmd
	for _, h := range []int{0, 7, 8, 9, 10, 11, 12, 20, 21, 30, 99, 100, 255} {
		l = append(l, onceOf(read(one[h])), onceOf(create(one[h], "note")), prepareOf(fmt.Sprint("h", h), read(one[h])))
	}
	for _, c := range []string{"a", "b", "new", "x", "y", "z", "more"} {
		l = append(l, onceOf(read(c)), onceOf(add(c, "n", 1)), onceOf(create(c, "note")))
	}
	for _, tx := range txs() {
		l = append(l, prepareOf(tx, read("a")))
	}
	l = append(l, freezeOf(0, 256), freezeOf(200, 256), freezeOf(20, 25), leaveOf(20, 22), takeOf(30, 31, casesOf(1, row{one[30], note(5)})))
	for k, tx := range txs() {
		if k%2 > 0 {
			l = append(l, abortOf(tx), commitOf(tx))
		} else {
			l = append(l, commitOf(tx), abortOf(tx))
		}
	}
	for _, h := range []int{0, 9, 10, 11, 12, 20, 30} {
		l = append(l, onceOf(read(one[h])), commitOf(fmt.Sprint("h", h)))
	}
	return append(l, onceOf(read("a"), read("b")), freezeOf(0, 256), leaveOf(0, 256))
}

// alike looks whether x and y tell the same, are saved as the same, and answer the same from here on.
func alike(t *testing.T, what string, x, y *shard.Shard) {
	t.Helper()
	if a, b := seen(x, txs()...), seen(y, txs()...); a != b {
		t.Errorf("%s: %s; not %s", what, a, b)
	}
	for _, c := range goOn() {
		a, b := x.Do(c), y.Do(c)
		if told(a) != told(b) || !bytes.Equal(a.Data, b.Data) {
			t.Errorf("%s: %+v: %s; not %s", what, c, told(a), told(b))
		}
		if !bytes.Equal(x.Save(), y.Save()) {
			t.Fatalf("%s: %+v: other bytes when it is saved", what, c)
		}
	}
}

func TestP16_4_LoadOfSave(t *testing.T) {
	for k, x := range kinds(t) {
		what := fmt.Sprint("shard ", k)
		b := x.Save()
		y := load(t, what, b)
		if !bytes.Equal(y.Save(), b) || !bytes.Equal(x.Save(), b) {
			t.Errorf("%s: other bytes when it is saved again", what)
		}
		alike(t, what, y, x)
	}
}

// A prepared one is answered as it was, holds what it held and ends as it would have.
func TestP16_4_LoadOfPrepared(t *testing.T) {
	for _, end := range []func(string) shard.Cmd{commitOf, abortOf} {
		s := load(t, "everything", everything(t).Save())
		prepared(t, s, "p", "q", "t", "u")
		same(t, s, `yes ["" "note n=-7"]`, prepareOf("p", read("zz")))
		same(t, s, `yes ["" "" "loan sum=99 +pay *big"]`, prepareOf("q", read("zz")))
		same(t, s, `yes ["bare *on" ""]`, prepareOf("t", read("zz")))
		both(t, s, "later", read(one[10]))
		both(t, s, "later", read(one[11]))
		both(t, s, "later", create(ofHash(12, 2)[1], "note"))
		both(t, s, "later", fire(one[12], "zz"))
		both(t, s, "gone", read(one[20]))
		both(t, s, "gone", read(one[30]))
		same(t, s, "later", freezeOf(12, 13))
		outcome(t, s, "done", api.Committed)
		outcome(t, s, "v", api.Aborted)
		outcome(t, s, "dead", api.Aborted)
		outcome(t, s, "p", api.Open)
		for _, tx := range []string{"p", "q", "t", "u"} {
			does(t, s, "done", end(tx))
		}
		want := [3]string{"note n=0", "loan sum=5", ""}
		if end("").Kind == shard.Commit {
			want = [3]string{"note n=-7", "loan sum=99 +pay *big", "bare *on"}
		}
		is(t, s, one[10], want[0])
		is(t, s, one[11], want[1])
		is(t, s, ofHash(12, 2)[1], want[2])
		frozen(t, s, 10, 13)
	}
}

func TestP16_4_SaveTellsShardsApart(t *testing.T) {
	told := map[string]int{}
	for k, s := range kinds(t) {
		if other, ok := told[string(s.Save())]; ok {
			t.Errorf("shards %d and %d are saved as the same bytes", k, other)
		}
		told[string(s.Save())] = k
	}
	s := pair(t)
	last := s.Save()
	for _, c := range []shard.Cmd{
		onceOf(set("a", "sum", 6)), onceOf(fire("a", "pay")), onceOf(create("c", "bare")), prepareOf("t", read("a")), prepareOf("u", read("b")),
		commitOf("t"), abortOf("u"), abortOf("v"), freezeOf(0, 1), leaveOf(0, 1), takeOf(0, 1, casesOf(0)),
	} {
		s.Do(c)
		if bytes.Equal(s.Save(), last) {
			t.Errorf("%+v: saved as ahead of it", c)
		}
		last = s.Save()
	}
}

// How it came about is not saved.
func TestP16_4_SaveOfTheSameIsTheSame(t *testing.T) {
	x, y := pair(t), began(t, 0, 100)
	does(t, y, "done", takeOf(100, 256, casesOf(0)))
	once(t, y, `yes ["" ""]`, create("b", "note"), set("b", "n", 4))
	prepare(t, y, "no 0 30", "t", read("a"))
	once(t, y, `yes ["" ""]`, create("a", "loan"), set("b", "n", 0))
	if !bytes.Equal(x.Save(), y.Save()) {
		t.Error("the same shard is saved as other bytes")
	}
	for _, tx := range []string{"t", "u", "v"} {
		prepare(t, x, `yes ["loan sum=5"]`, tx, read("a"))
	}
	for _, tx := range []string{"v", "t", "u"} {
		prepare(t, y, `yes ["loan sum=5"]`, tx, read("a"))
	}
	if !bytes.Equal(x.Save(), y.Save()) {
		t.Error("prepared in another order, and saved as other bytes")
	}
}

func TestP16_4_LoadOfOtherBytes(t *testing.T) {
	types := ours(t)
	unloaded(t, "nil", types, nil)
	unloaded(t, "no bytes", types, []byte{})
	for n := 1; n < 400; n++ {
		unloaded(t, "bytes of all ones", types, bytes.Repeat([]byte{0xff}, n))
		if n != 256+12 {
			unloaded(t, "bytes of zero", types, make([]byte, n))
		}
	}
	unloaded(t, "a text", types, []byte("a shard of no cases"))
}

func TestP16_4_LoadCutOffOrLonger(t *testing.T) {
	for k, s := range kinds(t) {
		b := s.Save()
		for n := 0; n < len(b); n += 1 + len(b)/1500 {
			unloaded(t, fmt.Sprintf("shard %d, %d of %d bytes", k, n, len(b)), ours(t), b[:n])
		}
		unloaded(t, fmt.Sprintf("shard %d, all but one", k), ours(t), b[:len(b)-1])
		for _, tail := range []string{"\x00", "\x01", "\xff", "\x00\x00\x00\x00", string(b)} {
			unloaded(t, fmt.Sprintf("shard %d with %d bytes behind", k, len(tail)), ours(t), append(slices.Clone(b), tail...))
		}
	}
}

// either looks whether b is refused, or loaded as a shard that may be and that is saved as b. It tells which.
func either(t *testing.T, what string, b []byte) bool {
	t.Helper()
	s, why := shard.Load(ours(t), b)
	if s == nil || why != api.OK {
		if s != nil || why != api.ErrForm {
			t.Errorf("%s: %v, %d", what, s != nil, why)
		}
		return false
	}
	if !bytes.Equal(s.Save(), b) {
		t.Errorf("%s: Load took bytes that it does not save", what)
	}
	for _, name := range s.Cases() {
		if !s.Owns(name) {
			t.Errorf("%s: a case that is not owned: %q", what, name)
		}
	}
	for _, tx := range s.Prepared() {
		if a := s.Do(prepareOf(tx, read("a"))); tx == "" || a.Kind != shard.Yes || s.Outcome(tx) != api.Open {
			t.Errorf("%s: %q is prepared: %s", what, tx, told(a))
		}
	}
	return true
}

func TestP16_4_LoadTurned(t *testing.T) {
	taken := 0
	for k, s := range []*shard.Shard{began(t, 100, 200), everything(t), kinds(t)[8]} {
		b := s.Save()
		for at := range b {
			for _, to := range []int{0, 1, 2, 3, 4, 5, 6, 7, 12, 13, 'a', 'm', 'z', 127, 128, 255, int(b[at]) + 1, int(b[at]) - 1, int(b[at]) ^ 32} {
				turned := slices.Clone(b)
				turned[at] = byte(to)
				if either(t, fmt.Sprintf("shard %d, byte %d turned to %d", k, at, to), turned) {
					taken++
				}
			}
		}
	}
	if taken < 1000 {
		t.Errorf("only %d were taken", taken)
	}
}

func TestP16_4_LoadOfHashes(t *testing.T) {
	for h := range 256 {
		for _, how := range []int{0, 1, 2, 3, 4, 128, 255} {
			p := parts{hashes: all(1), cases: casesOf(0)}
			p.hashes[h] = byte(how)
			if how > 2 {
				unloaded(t, fmt.Sprintf("Hash %d is %d", h, how), ours(t), p.bytes())
				continue
			}
			s := load(t, fmt.Sprintf("Hash %d is %d", h, how), p.bytes())
			want := []string{"gone", "no 0 30", "gone"}[how]
			if a := s.Do(onceOf(read(one[h]))); told(a) != want || s.Owns(one[h]) != (how > 0) {
				t.Errorf("Hash %d is %d: %s, %t", h, how, told(a), s.Owns(one[h]))
			}
		}
	}
}

// What no shard of these types is, though each part of it looks well.
func TestP16_4_LoadOfWrongParts(t *testing.T) {
	a, b := row{"a", loan(5, false, false, false)}, row{"b", note(0)}
	two := casesOf(2, a, b)
	ha, hb := sum.Hash("a"), sum.Hash("b")
	without := func(h, how int) []byte {
		l := all(1)
		l[h] = byte(how)
		return l
	}
	right := parts{hashes: all(1), cases: two, prepared: []asked{{"t", []api.Op{set("a", "sum", 7)}}, {"u", []api.Op{read("b")}}}, outcomes: []ended{{"d", 2}, {"e", 1}}}
	s := pair(t)
	for _, c := range []shard.Cmd{abortOf("d"), prepareOf("e", read("a")), commitOf("e"), prepareOf("t", set("a", "sum", 7)), prepareOf("u", read("b"))} {
		s.Do(c)
	}
	if got := s.Save(); !bytes.Equal(got, right.bytes()) {
		t.Fatalf("another writing than these tests have: % x", got)
	}
	wrong := map[string]func(p *parts){
		"a case that is not owned":            func(p *parts) { p.hashes = without(hb, 0); p.prepared = p.prepared[:1] },
		"a prepared case that is not owned":   func(p *parts) { p.hashes = without(hb, 0); p.cases = casesOf(1, a) },
		"a prepared case that is frozen":      func(p *parts) { p.hashes = without(ha, 2) },
		"a case that is only read is frozen":  func(p *parts) { p.hashes = without(hb, 2) },
		"cases that fall":                     func(p *parts) { p.cases = casesOf(2, b, a) },
		"a case twice":                        func(p *parts) { p.cases = casesOf(3, a, a, b) },
		"a case whose name is none":           func(p *parts) { p.cases = casesOf(3, row{"A", note(0)}, a, b) },
		"a case that does not fit":            func(p *parts) { p.cases = casesOf(2, a, row{"b", note(10)}) },
		"one prepared twice":                  func(p *parts) { p.prepared = []asked{p.prepared[1], p.prepared[1]} },
		"prepared ones that fall":             func(p *parts) { p.prepared[0], p.prepared[1] = p.prepared[1], p.prepared[0] },
		"one prepared without a name":         func(p *parts) { p.prepared[0].tx = "" },
		"one prepared with no operations":     func(p *parts) { p.prepared[0].ops = nil },
		"one prepared with five":              func(p *parts) { p.prepared[1].ops = []api.Op{read("b"), read("b"), read("b"), read("b"), read("b")} },
		"a kind that is none":                 func(p *parts) { p.prepared[1].ops = []api.Op{{Kind: 6, Case: "b"}} },
		"kind 0":                              func(p *parts) { p.prepared[1].ops = []api.Op{{Kind: 0, Case: "b"}} },
		"kind 2^32 - 1":                       func(p *parts) { p.prepared[1].ops = []api.Op{{Kind: 1<<32 - 1, Case: "b"}} },
		"one prepared on no case":             func(p *parts) { p.prepared[1].ops = []api.Op{read("zz")} },
		"one prepared that creates one there": func(p *parts) { p.prepared[1].ops = []api.Op{create("b", "note")} },
		"one prepared that creates no type":   func(p *parts) { p.prepared[1].ops = []api.Op{create("c", "zz")} },
		"one prepared that creates no name":   func(p *parts) { p.prepared[1].ops = []api.Op{create("C", "note")} },
		"one prepared beyond a bound":         func(p *parts) { p.prepared[0].ops = []api.Op{set("a", "sum", 101)} },
		"one prepared far beyond it":          func(p *parts) { p.prepared[0].ops = []api.Op{set("a", "sum", 1<<32+7)} },
		"one prepared that fires nothing":     func(p *parts) { p.prepared[0].ops = []api.Op{fire("a", "shut")} },
		"two write one case":                  func(p *parts) { p.prepared[1].ops = []api.Op{read("b"), set("a", "sum", 8)} },
		"one reads what another writes":       func(p *parts) { p.prepared[1].ops = []api.Op{read("b"), read("a")} },
		"one writes what another reads":       func(p *parts) { p.prepared[0].ops = []api.Op{set("a", "sum", 8), set("b", "n", 1)} },
		"two create one case": func(p *parts) {
			p.prepared[0].ops, p.prepared[1].ops = []api.Op{create("c", "note")}, []api.Op{create("c", "note")}
		},
		"one more prepared than it says":     func(p *parts) { p.count = 1 },
		"one fewer prepared than it says":    func(p *parts) { p.count = 3 },
		"2^32 - 1 prepared":                  func(p *parts) { p.count = 1<<32 - 1 },
		"an outcome twice":                   func(p *parts) { p.outcomes = []ended{{"d", 2}, {"d", 2}} },
		"outcomes that fall":                 func(p *parts) { p.outcomes = []ended{{"e", 1}, {"d", 2}} },
		"an outcome of no name":              func(p *parts) { p.outcomes[0].tx = "" },
		"an outcome of one that is prepared": func(p *parts) { p.outcomes = []ended{{"t", 2}} },
		"a Commit of one that is prepared":   func(p *parts) { p.outcomes = []ended{{"u", 1}} },
		"the outcome Open":                   func(p *parts) { p.outcomes[0].how = api.Open },
		"the outcome Rejected":               func(p *parts) { p.outcomes[0].how = api.Rejected },
		"the outcome 255":                    func(p *parts) { p.outcomes[1].how = 255 },
	}
	for what, change := range wrong {
		p := right
		p.hashes, p.prepared, p.outcomes = slices.Clone(p.hashes), slices.Clone(p.prepared), slices.Clone(p.outcomes)
		change(&p)
		unloaded(t, what, ours(t), p.bytes())
	}
	load(t, "with nothing changed", right.bytes())
}

// Of types that New refuses there is no Save; nor is there one of these types with cases of others.
func TestP16_4_LoadOfOtherTypes(t *testing.T) {
	empty := began(t, 0, 256).Save()
	some := pair(t).Save()
	five := []api.Type{{Name: "a"}, {Name: "b"}, {Name: "c"}, {Name: "d"}, {Name: "e"}}
	for what, types := range map[string][]api.Type{"five": five, "one name twice": {{Name: "a"}, {Name: "a"}}, "one that is not right": {{}}} {
		unloaded(t, what+", an empty shard", types, empty)
		unloaded(t, what+", some cases", types, some)
	}
	for what, types := range map[string][]api.Type{
		"none": nil, "loan alone": typed(t, loanText), "note alone": typed(t, noteText),
		"a note of two numbers":  typed(t, loanText, "type note; attr n 0 -9 9; attr m 0 0 0"),
		"a note of other bounds": typed(t, loanText, "type note; attr n 1 1 9"), "another name": typed(t, loanText, "type notes; attr n 0 -9 9"),
	} {
		unloaded(t, what, types, some)
	}
	if s, why := shard.Load(typed(t, noteText, bareText, loanText), some); s == nil || why != api.OK {
		t.Errorf("the same types in another order: %v, %d", s != nil, why)
	}
}

// Without types nothing goes well: nobody is prepared or Committed, ever.
func TestP16_4_LoadWithoutTypes(t *testing.T) {
	s, _ := shard.New(nil, 3, 200)
	s.Do(abortOf("t"))
	s.Do(freezeOf(3, 100))
	x, why := shard.Load(nil, s.Save())
	if x == nil || why != api.OK || !bytes.Equal(x.Save(), s.Save()) || x.Outcome("t") != api.Aborted {
		t.Errorf("no types: %v, %d", x != nil, why)
	}
	p := parts{hashes: all(1), cases: casesOf(0), outcomes: []ended{{"t", api.Committed}}}
	unloaded(t, "Committed without types", nil, p.bytes())
	load(t, "Committed with types", p.bytes())
	p = parts{hashes: all(1), cases: casesOf(0), prepared: []asked{{"t", []api.Op{create("a", "note")}}}}
	unloaded(t, "prepared without types", nil, p.bytes())
	load(t, "prepared with types", p.bytes())
}

// crowded answers parts with the given number of transactions, each of which reads so many cases of its own and
// creates so many.
func crowded(n, reads, creates int) parts {
	p := parts{hashes: all(1)}
	var rows []row
	for _, name := range names(n * reads) {
		rows = append(rows, row{name, note(0)})
	}
	p.cases = casesOf(len(rows), rows...)
	for k := range n {
		x := asked{tx: fmt.Sprintf("t%03d", k)}
		for i := range reads {
			x.ops = append(x.ops, read(rows[k*reads+i].name))
		}
		for i := range creates {
			x.ops = append(x.ops, create("new"+names(n)[k]+string(rune('a'+i)), "note"))
		}
		p.prepared = append(p.prepared, x)
	}
	return p
}

// byHand does what crowded writes, and answers how many transactions went well.
func byHand(t *testing.T, n, reads, creates int) (*shard.Shard, int) {
	t.Helper()
	s := began(t, 0, 256)
	for k, x := range crowded(n, reads, creates).prepared {
		for _, o := range x.ops {
			if o.Kind == api.Read && told(s.Do(onceOf(create(o.Case, "note")))) != `yes [""]` {
				return s, k
			}
		}
		if a := s.Do(prepareOf(x.tx, x.ops...)); a.Kind != shard.Yes {
			return s, k
		}
	}
	return s, n
}

// Those that create cases found room for them when they came: so many of them that the last one could not are nobody's.
func TestP16_4_LoadOfThoseThatHadNoRoom(t *testing.T) {
	for reads := 1; reads <= 3; reads++ {
		creates := 4 - reads
		most := (api.MaxCases - creates) / reads
		if s, n := byHand(t, most, reads, creates); n != most || !bytes.Equal(s.Save(), crowded(most, reads, creates).bytes()) {
			t.Fatalf("%d of %d that read %d each", n, most, reads)
		}
		if _, n := byHand(t, most+1, reads, creates); n != most {
			t.Fatalf("%d of one more than %d that read %d each", n, most, reads)
		}
		load(t, fmt.Sprint("as many as may be, reading ", reads), crowded(most, reads, creates).bytes())
		unloaded(t, fmt.Sprint("one more, reading ", reads), ours(t), crowded(most+1, reads, creates).bytes())
	}
	load(t, "those that read alone are as many as they like", crowded(50, 4, 0).bytes())
	load(t, "those that create alone are as many as they like", crowded(50, 0, 4).bytes())
}

// Those that create more came ahead of those that create fewer, whatever their names are.
func TestP16_4_LoadOfThoseThatHadRoomInSomeOrder(t *testing.T) {
	for _, first := range []int{0, 9} {
		p := crowded(10, 3, 1)
		p.prepared[first].ops = append(p.prepared[first].ops[:1], create("xa", "note"), create("xb", "note"), create("xc", "note"))
		load(t, "one that creates three among those that create one", p.bytes())
	}
	s := filled(t, 29)
	prepare(t, s, `yes ["note n=0" "" "" ""]`, "z", read("caaa"), create("xa", "note"), create("xb", "note"), create("xc", "note"))
	once(t, s, `yes ["" ""]`, create("xd", "note"), create("xe", "note"))
	prepare(t, s, `yes ["note n=0" "note n=0" "note n=0" ""]`, "a", read("caab"), read("xd"), read("xe"), create("xf", "note"))
	load(t, "one that creates three behind one that creates one, by name", s.Save())
}

func TestP16_4_AskedInOrder(t *testing.T) {
	s := began(t, 0, 256)
	for _, name := range []string{"b", "abc", "ab", "zz", "a", "z", "aa"} {
		once(t, s, `yes [""]`, create(name, "note"))
	}
	has(t, s, "a", "aa", "ab", "abc", "b", "z", "zz")
	for _, tx := range []string{"b", "\xff", "B", "é", "a", "\x00", "aa", " "} {
		prepare(t, s, `yes ["note n=0"]`, tx, read("a"))
	}
	prepared(t, s, "\x00", " ", "B", "a", "aa", "b", "é", "\xff")
	does(t, s, "done", commitOf("a"))
	prepared(t, s, "\x00", " ", "B", "aa", "b", "é", "\xff")
}

// Any text may be asked for.
func TestP16_4_CaseAndOutcomeOfNone(t *testing.T) {
	s := everything(t)
	for _, name := range append(noNames(), "zz", "p", "loan") {
		is(t, s, name, "")
		if name != "p" {
			outcome(t, s, name, api.Open)
		}
		if s.Owns(name) != (sum.Hash(name) != 30) {
			t.Errorf("Owns(%.20q): %t", name, s.Owns(name))
		}
	}
	is(t, s, one[30], "")
	is(t, s, one[20], "note n=9")
	is(t, s, one[10], "note n=0")
}

// What was saved, with some bytes turned, taken out or put in.
func TestR1_LoadOfSpoiltBytes(t *testing.T) {
	r := rand.New(rand.NewSource(16))
	var list [][]byte
	for _, s := range kinds(t) {
		if b := s.Save(); len(b) < 3000 {
			list = append(list, b)
		}
	}
	for range 8000 {
		b := slices.Clone(list[r.Intn(len(list))])
		for range 1 + r.Intn(3) {
			at := r.Intn(len(b))
			if r.Intn(4) > 0 {
				at = 255 + r.Intn(len(b)-255)
			}
			switch r.Intn(3) {
			case 0:
				b[at] = byte(r.Intn(256) >> r.Intn(8))
			case 1:
				b = slices.Delete(b, at, min(len(b), at+r.Intn(5)))
			case 2:
				b = slices.Insert(b, at, make([]byte, r.Intn(5))...)
			}
			if len(b) < 256 {
				break
			}
		}
		either(t, fmt.Sprintf("% x", b), b)
	}
}
