package shard_test

import (
	"bytes"
	"fmt"
	"math"
	"slices"
	"strings"
	"testing"

	"conclave/api"
	"conclave/shard"
)

// oddTexts: of all kinds, with very long ones among them.
func oddTexts() []string {
	return append(noNames(), "a", "t", "tt", "loan", "sum", "\x00a", strings.Repeat("a", 1<<14), strings.Repeat("\xff", 1<<14))
}

func oddNumbers() []int {
	return []int{math.MinInt, -1 << 32, math.MinInt32, -257, -1, 0, 1, 2, 5, 6, 7, 8, 255, 256, 257, 1 << 31, 1<<32 + 1, math.MaxInt}
}

// oddCmds answers commands of all kinds, and of none, with anything in them.
func oddCmds() []shard.Cmd {
	var list []shard.Cmd
	for _, n := range oddNumbers() {
		for _, m := range oddNumbers() {
			list = append(list, shard.Cmd{Kind: n, Lo: m, Hi: n}, shard.Cmd{Kind: 5, Lo: n, Hi: m}, shard.Cmd{Kind: 6, Lo: n, Hi: m, Data: casesOf(n, row{"a", note(m)})}, shard.Cmd{Kind: 7, Lo: n, Hi: m})
			for kind := 1; kind <= 2; kind++ {
				list = append(list, shard.Cmd{Kind: kind, Tx: "t", Ops: []api.Op{{Kind: n, Case: "a", Name: "sum", N: m}}, At: []int{m}})
				list = append(list, shard.Cmd{Kind: kind, Tx: fmt.Sprint(n), Ops: []api.Op{set("a", "sum", 6), {Kind: 1 + (m&3)%5, Case: "b", Name: "n", N: n}}})
			}
		}
	}
	for _, s := range oddTexts() {
		for kind := -1; kind < 9; kind++ {
			list = append(list, shard.Cmd{Kind: kind, Tx: s}, shard.Cmd{Kind: kind, Tx: s, Ops: []api.Op{read(s)}, Hi: 256, Data: []byte(s)}, shard.Cmd{Kind: kind, Tx: "t" + s, Ops: []api.Op{create(s, s), create("a", s), set(s, s, 1)}})
			list = append(list, shard.Cmd{Kind: kind, Tx: s, Ops: []api.Op{{Kind: api.Read, Case: "a", Name: s, N: math.MinInt}}})
		}
	}
	return append(list, shard.Cmd{Kind: 1, Ops: make([]api.Op, 1<<16)}, shard.Cmd{Kind: 2, Tx: "t", At: make([]int, 1<<16)}, shard.Cmd{Kind: 6, Hi: 256, Data: make([]byte, 1<<16)})
}

func TestR1_AnyCommand(t *testing.T) {
	shards := []*shard.Shard{began(t, 0, 256), pair(t), began(t, 0, 0), began(t, 0, 100)}
	bare, _ := shard.New(nil, 0, 256)
	shards = append(shards, bare, everything(t))
	list := oddCmds()
	for _, s := range shards {
		for k, c := range list {
			a := s.Do(c)
			if a.Kind < shard.Yes || a.Kind > shard.None {
				t.Fatalf("%.300s: %d", words(c), a.Kind)
			}
			if b := shard.EncodeCmd(c); b != nil {
				shard.DecodeCmd(b)
			}
			if k%97 == 0 {
				seen(s, c.Tx)
				load(t, "any", s.Save())
			}
		}
	}
}

func TestR1_AnyTypes(t *testing.T) {
	rules := []api.Rule{{Name: "s", Guard: "?"}, {Name: "", Guard: strings.Repeat("not ", 1000)}}
	for _, types := range [][]api.Type{
		nil, {}, make([]api.Type, 1), make([]api.Type, 4), make([]api.Type, 1<<12), {{Name: "a", Attrs: make([]api.Attr, 1<<12)}},
		{{Name: "a", Stages: make([]api.Rule, 1<<12)}}, {{Name: "a", Marks: rules}}, {{Name: strings.Repeat("a", 1<<16)}}, {{Name: "a", Attrs: []api.Attr{{Name: "n", Lo: math.MinInt, Hi: math.MaxInt}}}},
	} {
		s, why := shard.New(types, 0, 256)
		if (s != nil) != (why == api.OK) || why != api.OK && why != api.ErrArg {
			t.Errorf("%.100v: %v, %d", types, s != nil, why)
		}
		for _, b := range [][]byte{nil, pair(t).Save(), began(t, 0, 9).Save()} {
			if s, why := shard.Load(types, b); (s != nil) != (why == api.OK) || why != api.OK && why != api.ErrForm {
				t.Errorf("%.100v: Load: %v, %d", types, s != nil, why)
			}
		}
	}
}

// Very many transactions, prepared and ended.
func TestR1_ManyTransactions(t *testing.T) {
	s := pair(t)
	const n = 1 << 12
	for k := range n {
		tx := fmt.Sprintf("%05d", k)
		if a := s.Do(prepareOf(tx, read("a"))); told(a) != `yes ["loan sum=5"]` {
			t.Fatalf("%s: %s", tx, told(a))
		}
	}
	once(t, s, "later", set("a", "sum", 1))
	s = load(t, "many", s.Save())
	for k := range n {
		c := commitOf(fmt.Sprintf("%05d", k))
		if k%2 > 0 {
			c.Kind = shard.Abort
		}
		if a := s.Do(c); a.Kind != shard.Done {
			t.Fatalf("%+v: %s", c, told(a))
		}
	}
	once(t, s, `yes [""]`, set("a", "sum", 1))
	s = load(t, "many", s.Save())
	outcome(t, s, "00000", api.Committed)
	outcome(t, s, "04095", api.Aborted)
}

// Very many cases, taken at once.
func TestR1_ManyCases(t *testing.T) {
	var rows []row
	for _, name := range names(26 * 676) {
		rows = append(rows, row{name, note(1)})
	}
	data := casesOf(len(rows), rows...)
	s := began(t, 0, 0)
	if a := s.Do(takeOf(0, 256, data)); a.Kind != shard.Done || len(s.Cases()) != len(rows) {
		t.Fatalf("%s, %d", told(a), len(s.Cases()))
	}
	for range 2000 {
		if a := s.Do(onceOf(read("caaa"), add("cbcd", "n", 0))); a.Kind != shard.Yes {
			t.Fatal(told(a))
		}
	}
	s = load(t, "many", s.Save())
	if got := s.Do(freezeOf(0, 256)).Data; !bytes.Equal(got, data) {
		t.Error("other bytes when they are frozen")
	}
}

// roomy answers types whose lists have room behind their lengths, in which there is something.
func roomy(types []api.Type) []api.Type {
	list := append(slices.Clone(types), api.Type{Name: "behind"})[:len(types)]
	for i, x := range list {
		list[i].Attrs = append(slices.Clone(x.Attrs), api.Attr{Name: "behind", Start: 1, Lo: 1, Hi: 1})[:len(x.Attrs)]
		list[i].Stages = append(slices.Clone(x.Stages), api.Rule{Name: "ready", Guard: "1"})[:len(x.Stages)]
		list[i].Marks = append(slices.Clone(x.Marks), api.Rule{Name: "got", Guard: "1"})[:len(x.Marks)]
	}
	return list
}

// typeWords tells types with the room behind all of their lists.
func typeWords(types []api.Type) string {
	var b strings.Builder
	for _, x := range types[:cap(types)] {
		fmt.Fprintf(&b, "%q %v %v %v; ", x.Name, x.Attrs[:cap(x.Attrs)], x.Stages[:cap(x.Stages)], x.Marks[:cap(x.Marks)])
	}
	return b.String()
}

// spoilTypes writes all over types and the room behind their lists.
func spoilTypes(types []api.Type) {
	for i, x := range types {
		for k := range x.Attrs[:cap(x.Attrs)] {
			x.Attrs[:cap(x.Attrs)][k] = api.Attr{Name: "spoilt", Start: 3}
		}
		for k := range x.Stages[:cap(x.Stages)] {
			x.Stages[:cap(x.Stages)][k] = api.Rule{Name: "spoilt", Guard: "1"}
		}
		for k := range x.Marks[:cap(x.Marks)] {
			x.Marks[:cap(x.Marks)][k] = api.Rule{Name: "spoilt", Guard: "1"}
		}
		types[i] = api.Type{Name: "spoilt"}
	}
}

// Types are neither turned nor kept, by New and by Load.
func TestR2_Types(t *testing.T) {
	saved := pair(t).Save()
	for what, make := range map[string]func(types []api.Type) (*shard.Shard, api.Errno){
		"New":  func(types []api.Type) (*shard.Shard, api.Errno) { return shard.New(types, 0, 256) },
		"Load": func(types []api.Type) (*shard.Shard, api.Errno) { return shard.Load(types, saved) },
	} {
		types := roomy(ours(t))
		was := typeWords(types)
		s, why := make(types)
		if s == nil || why != api.OK || typeWords(types) != was {
			t.Fatalf("%s: %d; %s became %s", what, why, was, typeWords(types))
		}
		spoilTypes(types)
		once(t, s, `yes ["" "loan sum=5"]`, create("x", "loan"), read("x"))
		once(t, s, `yes ["" "" "loan sum=60 +pay *big"]`, fire("x", "pay"), set("x", "sum", 60), read("x"))
		once(t, s, "no 0 38", create("y", "spoilt"))
		once(t, s, "no 0 38", create("y", "behind"))
		once(t, s, "no 0 32", fire("x", "ready"))
	}
}

// roomyCmd answers c with lists that have room behind their lengths, in which there is something.
func roomyCmd(c shard.Cmd) shard.Cmd {
	c.Ops = append(slices.Clone(c.Ops), create("behind", "note"), read("behind"))[:len(c.Ops)]
	c.At = append(slices.Clone(c.At), 77, 78)[:len(c.At)]
	c.Data = append(slices.Clone(c.Data), "behind"...)[:len(c.Data)]
	return c
}

func wide(c shard.Cmd) string {
	c.Ops, c.At, c.Data = c.Ops[:cap(c.Ops)], c.At[:cap(c.At)], c.Data[:cap(c.Data)]
	return words(c)
}

// spoilCmd writes all over c and the room behind its lists.
func spoilCmd(c shard.Cmd) {
	for k := range c.Ops[:cap(c.Ops)] {
		c.Ops[:cap(c.Ops)][k] = api.Op{Kind: api.Set, Case: "spoilt", Name: "spoilt", N: 9}
	}
	for k := range c.At[:cap(c.At)] {
		c.At[:cap(c.At)][k] = 99
	}
	for k := range c.Data[:cap(c.Data)] {
		c.Data[:cap(c.Data)][k] = 0xff
	}
}

// spoilAnswer writes all over a and the room behind its lists.
func spoilAnswer(a shard.Answer) {
	for k := range a.Texts[:cap(a.Texts)] {
		a.Texts[:cap(a.Texts)][k] = "spoilt"
	}
	for k := range a.Data[:cap(a.Data)] {
		a.Data[:cap(a.Data)][k] = 0xff
	}
}

// Commands are neither turned nor kept, and answers are new memory: a shard whose commands and answers are spoilt at
// once goes on as another one does.
func TestR2_CommandsAndAnswers(t *testing.T) {
	data := frozen(t, pair(t), 0, 256)
	list := []shard.Cmd{
		takeOf(0, 256, data), prepareOf("t", set("a", "sum", 60), read("a"), create("c", "bare")), prepareOf("u", read("b")), prepareOf("t", read("b")), prepareOf("t", read("b")), prepareOf("u", read("b")),
		{Kind: shard.Prepare, Tx: "v", Ops: []api.Op{read("b"), read("zz")}, At: []int{5, 6}}, {Kind: shard.Once, Ops: []api.Op{read("b"), read("zz")}, At: []int{5, 6}}, onceOf(read("b")), onceOf(create("d", "loan"), read("d")),
		commitOf("t"), abortOf("u"), onceOf(read("a"), read("b"), read("c"), read("d")), freezeOf(0, 256), freezeOf(0, 128), freezeOf(0, 256), leaveOf(0, 256), takeOf(0, 256, data), onceOf(read("a")),
	}
	s, plain := began(t, 0, 0), began(t, 0, 0)
	for _, c := range list {
		want := plain.Do(c)
		d := roomyCmd(c)
		was := wide(d)
		got := s.Do(d)
		if wide(d) != was {
			t.Errorf("%s became %s", was, wide(d))
		}
		if told(got) != told(want) || !bytes.Equal(got.Data, want.Data) {
			t.Fatalf("%s: %s; not %s", words(c), told(got), told(want))
		}
		spoilCmd(d)
		if told(got) != told(want) || !bytes.Equal(got.Data, want.Data) {
			t.Errorf("%s: the answer went along with the command", words(c))
		}
		spoilAnswer(got)
		if a, b := seen(s, "t", "u", "v"), seen(plain, "t", "u", "v"); a != b {
			t.Fatalf("%s: %s; not %s", words(c), a, b)
		}
		if !bytes.Equal(s.Save(), plain.Save()) {
			t.Fatalf("%s: saved as other bytes", words(c))
		}
	}
}

func TestR2_Asked(t *testing.T) {
	s := everything(t)
	was, saved := seen(s, txs()...), s.Save()
	for range 2 {
		for _, name := range s.Cases() {
			x, _ := s.Case(name)
			for k := range x.Vals[:cap(x.Vals)] {
				x.Vals[:cap(x.Vals)][k] = 77
			}
			for k := range x.Done[:cap(x.Done)] {
				x.Done[:cap(x.Done)][k] = true
			}
			for k := range x.Got[:cap(x.Got)] {
				x.Got[:cap(x.Got)][k] = true
			}
		}
		for _, list := range [][]string{s.Cases(), s.Prepared()} {
			for k := range list[:cap(list)] {
				list[:cap(list)][k] = "spoilt"
			}
		}
		b := s.Save()
		for k := range b[:cap(b)] {
			b[:cap(b)][k] = 0xff
		}
		if seen(s, txs()...) != was || !bytes.Equal(s.Save(), saved) {
			t.Errorf("%s became %s", was, seen(s, txs()...))
		}
	}
}

// An answer is not turned by what is done behind it.
func TestR2_AnswersStay(t *testing.T) {
	s := pair(t)
	x, _ := s.Case("a")
	list, open, b := s.Cases(), s.Prepared(), s.Save()
	a := s.Do(prepareOf("t", set("a", "sum", 60), fire("a", "pay"), read("a")))
	s.Do(commitOf("t"))
	once(t, s, `yes ["" ""]`, create("c", "note"), set("a", "sum", 1))
	if got := fmt.Sprintf("%s %v %v %s", stateText(x), list, open, told(a)); got != `loan [5] [false false] [false] [a b] [] yes ["" "" "loan sum=60 +pay *big"]` {
		t.Errorf("an answer went along: %s", got)
	}
	is(t, load(t, "early", b), "a", "loan sum=5")
}

// Bytes are neither turned nor kept, by Load and by DecodeCmd.
func TestR2_Bytes(t *testing.T) {
	b := everything(t).Save()
	room := append(slices.Clone(b), "room behind"...)
	s := load(t, "with room behind", room[:len(b)])
	if string(room) != string(b)+"room behind" {
		t.Error("Load turned its bytes")
	}
	for k := range room {
		room[k] = 0xff
	}
	if !bytes.Equal(s.Save(), b) {
		t.Error("Load's bytes were written to: other bytes when it is saved")
	}
	for _, c := range commands() {
		b := shard.EncodeCmd(c)
		room := append(slices.Clone(b), "room behind"...)
		d, why := shard.DecodeCmd(room[:len(b)])
		if why != api.OK || string(room) != string(b)+"room behind" {
			t.Fatalf("DecodeCmd: %d, or it turned its bytes", why)
		}
		for k := range room {
			room[k] = 0xff
		}
		if words(d) != words(c) {
			t.Errorf("%.300s: DecodeCmd's bytes were written to: %.300s", words(c), words(d))
		}
	}
}

// EncodeCmd leaves the command as it is, and its bytes are new memory; so is what DecodeCmd answers.
func TestR2_EncodeAndDecode(t *testing.T) {
	for _, c := range commands() {
		d := roomyCmd(c)
		was := wide(d)
		b := shard.EncodeCmd(d)
		if wide(d) != was || !bytes.Equal(b, written(c)) {
			t.Fatalf("%.300s became %.300s", was, wide(d))
		}
		spoilCmd(d)
		if !bytes.Equal(b, written(c)) {
			t.Errorf("%.300s: its bytes went along", words(c))
		}
		x, _ := shard.DecodeCmd(b)
		y, _ := shard.DecodeCmd(b)
		spoilCmd(x)
		if words(y) != words(c) || !bytes.Equal(b, written(c)) {
			t.Errorf("%.300s: two answers share memory: %.300s", words(c), words(y))
		}
		again := shard.EncodeCmd(c)
		for k := range again[:cap(again)] {
			again[:cap(again)][k] = 0xff
		}
		if !bytes.Equal(b, written(c)) {
			t.Errorf("%.300s: two answers share memory", words(c))
		}
	}
}

// Two shards that are loaded from the same bytes have nothing in common.
func TestR2_ShardsApart(t *testing.T) {
	b := everything(t).Save()
	x, y := load(t, "one", b), load(t, "another", b)
	for _, c := range goOn() {
		x.Do(c)
	}
	if !bytes.Equal(y.Save(), b) {
		t.Error("what one does turns another")
	}
	alike(t, "another", y, load(t, "a third", b))
}

// Beside a refusal, and beside what has no meaning, there is nothing.
func TestR3_NothingBeside(t *testing.T) {
	s := everything(t)
	for _, c := range append(goOn(), oddCmds()...) {
		a := s.Do(c)
		if a.Kind != shard.Yes && len(a.Texts) > 0 || a.Kind != shard.No && (a.At != 0 || a.Why != 0) || (a.Kind == shard.No) != (a.Why != 0) || (len(a.Data) > 0) != (a.Kind == shard.Done && c.Kind == shard.Freeze) {
			t.Errorf("%.300s: %+v", words(c), a)
		}
		if a.Kind == shard.Yes && c.Kind == shard.Once && len(a.Texts) != len(c.Ops) {
			t.Errorf("%.300s: %d texts", words(c), len(a.Texts))
		}
	}
}

// nil and empty lists mean the same.
func TestR4_NoneAndEmpty(t *testing.T) {
	for _, at := range [][]int{nil, {}, make([]int, 0, 9)} {
		s := pair(t)
		does(t, s, "no 1 30", shard.Cmd{Kind: shard.Once, Ops: []api.Op{read("a"), read("zz")}, At: at})
		does(t, s, "none", shard.Cmd{Kind: shard.Once, Ops: []api.Op{}, At: at})
		does(t, s, "none", shard.Cmd{Kind: shard.Take, Hi: 256, Data: []byte{}})
	}
	if a, b := shard.EncodeCmd(shard.Cmd{}), shard.EncodeCmd(shard.Cmd{Ops: []api.Op{}, At: []int{}, Data: []byte{}}); !bytes.Equal(a, b) {
		t.Errorf("% x; not % x", b, a)
	}
	x, _ := shard.New(nil, 0, 9)
	y, _ := shard.New([]api.Type{}, 0, 9)
	if !bytes.Equal(x.Save(), y.Save()) {
		t.Error("no types and an empty list are saved as other bytes")
	}
	empty := []api.Type{{Name: "a", Attrs: []api.Attr{}, Stages: []api.Rule{}, Marks: []api.Rule{}}}
	z, _ := shard.New(empty, 0, 256)
	w, _ := shard.New([]api.Type{{Name: "a"}}, 0, 256)
	for _, s := range []*shard.Shard{z, w} {
		once(t, s, `yes ["" "a"]`, create("c", "a"), read("c"))
	}
	if !bytes.Equal(z.Save(), w.Save()) {
		t.Error("a type of nothing and one of empty lists are saved as other bytes")
	}
}

// Texts that look alike are not the same.
func TestR5_TextsAreBytes(t *testing.T) {
	s := pair(t)
	list := []string{"é", "e\u0301", "\xc3", "\xe9", "É", "\ufffd", "\xff", "a", "A", "a ", " a", "a\x00", "t", "tt"}
	for k, tx := range list {
		if k%2 == 0 {
			prepare(t, s, `yes ["loan sum=5"]`, tx, read("a"))
		} else {
			does(t, s, "done", abortOf(tx))
		}
	}
	s = load(t, "alike", s.Save())
	for k, tx := range list {
		if k%2 == 0 {
			outcome(t, s, tx, api.Open)
			does(t, s, "done", commitOf(tx))
			outcome(t, s, tx, api.Committed)
		} else {
			outcome(t, s, tx, api.Aborted)
		}
	}
	prepared(t, s)
}
