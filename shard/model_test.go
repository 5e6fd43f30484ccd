package shard_test

import (
	"bytes"
	"fmt"
	"math/rand"
	"slices"
	"strings"
	"testing"

	"conclave/api"
	"conclave/cases"
	"conclave/guard"
	"conclave/shard"
	"conclave/sum"
)

// promise is a transaction that is prepared: what it was answered, what it left and which cases it holds.
type promise struct {
	answer string
	left   map[string]api.State
	reads  []string
	writes []string
}

// model is a shard as the chapter's words tell it.
type model struct {
	types    []api.Type
	owned    map[int]bool
	frozen   map[int]bool
	cases    map[string]api.State
	prepared map[string]promise
	outcomes map[string]int
}

func newModel(types []api.Type, lo, hi int) *model {
	m := &model{types, map[int]bool{}, map[int]bool{}, map[string]api.State{}, map[string]promise{}, map[string]int{}}
	for h := lo; h < hi; h++ {
		m.owned[h] = true
	}
	return m
}

func (m *model) kind(name string) (api.Type, bool) {
	i := slices.IndexFunc(m.types, func(t api.Type) bool { return t.Name == name })
	if i < 0 {
		return api.Type{}, false
	}
	return m.types[i], true
}

// run answers what ops leave and what they are answered.
func (m *model) run(c shard.Cmd) (map[string]api.State, string) {
	left := map[string]api.State{}
	for name, s := range m.cases {
		left[name] = s
	}
	texts := []string{}
	for i, o := range c.Ops {
		why, text := api.OK, ""
		s, there := left[o.Case]
		if t, known := m.kind(o.Name); o.Kind == api.Create {
			switch {
			case there:
				why = api.Exists
			case !known:
				why = api.Unknown
			case len(left) >= api.MaxCases:
				why = api.Bound
			case !guard.Name(o.Case):
				why = api.NoName
			default:
				left[o.Case] = cases.New(t)
			}
		} else if !there {
			why = api.NoCase
		} else {
			t, _ := m.kind(s.Type)
			var n api.State
			if n, text, why = cases.Apply(t, s, o); why == api.OK {
				left[o.Case] = n
			}
		}
		if why != api.OK {
			if len(c.At) > 0 {
				i = c.At[i]
			}
			return nil, fmt.Sprintf("no %d %d", i, int(why))
		}
		texts = append(texts, text)
	}
	return left, fmt.Sprintf("yes %q", texts)
}

// barred answers gone or later, if ops are.
func (m *model) barred(ops []api.Op) string {
	for _, o := range ops {
		if h := sum.Hash(o.Case); !m.owned[h] || m.frozen[h] {
			return "gone"
		}
	}
	for _, o := range ops {
		for _, p := range m.prepared {
			if slices.Contains(p.writes, o.Case) || o.Kind != api.Read && slices.Contains(p.reads, o.Case) {
				return "later"
			}
		}
	}
	return ""
}

func wrongOps(c shard.Cmd) bool {
	return len(c.Ops) == 0 || len(c.Ops) > 4 || len(c.At) > 0 && len(c.At) != len(c.Ops) ||
		slices.ContainsFunc(c.Ops, func(o api.Op) bool { return o.Kind < 1 || o.Kind > 5 })
}

// within answers the model's cases of the command's Hashes in words, in order.
func (m *model) within(c shard.Cmd) string {
	var list []string
	for name, s := range m.cases {
		if h := sum.Hash(name); c.Lo <= h && h < c.Hi {
			list = append(list, name+" "+stateText(s))
		}
	}
	slices.Sort(list)
	return strings.Join(list, "; ")
}

// packed is what a Freeze answered: bytes, and the cases that they tell.
type packed struct {
	data  []byte
	cases map[string]api.State
}

func (m *model) do(c shard.Cmd, p packed) string {
	switch c.Kind {
	case shard.Once, shard.Prepare:
		return m.ask(c)
	case shard.Commit, shard.Abort:
		return m.end(c)
	case shard.Freeze, shard.Take, shard.Leave:
		return m.move(c, p)
	}
	return "none"
}

func (m *model) ask(c shard.Cmd) string {
	if wrongOps(c) || c.Kind == shard.Prepare && c.Tx == "" {
		return "none"
	}
	if c.Kind == shard.Prepare {
		if p, ok := m.prepared[c.Tx]; ok {
			return p.answer
		}
		if m.outcomes[c.Tx] != api.Open {
			return "done"
		}
	}
	if why := m.barred(c.Ops); why != "" {
		return why
	}
	left, answer := m.run(c)
	if left == nil {
		return answer
	}
	if c.Kind == shard.Once {
		m.cases = left
		return answer
	}
	p := promise{answer: answer, left: map[string]api.State{}}
	for _, o := range c.Ops {
		if o.Kind == api.Read {
			p.reads = append(p.reads, o.Case)
		} else {
			p.writes = append(p.writes, o.Case)
			p.left[o.Case] = left[o.Case]
		}
	}
	m.prepared[c.Tx] = p
	return answer
}

func (m *model) end(c shard.Cmd) string {
	p, ok := m.prepared[c.Tx]
	switch {
	case c.Tx == "":
		return "none"
	case c.Kind == shard.Commit && ok:
		for name, s := range p.left {
			m.cases[name] = s
		}
		m.outcomes[c.Tx] = api.Committed
	case c.Kind == shard.Commit && m.outcomes[c.Tx] != api.Committed, c.Kind == shard.Abort && m.outcomes[c.Tx] == api.Committed:
		return "none"
	case c.Kind == shard.Abort:
		m.outcomes[c.Tx] = api.Aborted
	}
	delete(m.prepared, c.Tx)
	return "done"
}

// every tells whether each of the command's Hashes is so.
func every(c shard.Cmd, is func(h int) bool) bool {
	for h := c.Lo; h < c.Hi; h++ {
		if !is(h) {
			return false
		}
	}
	return true
}

func (m *model) move(c shard.Cmd, p packed) string {
	if c.Lo < 0 || c.Lo > c.Hi || c.Hi > 256 {
		return "none"
	}
	in := func(name string) bool { return c.Lo <= sum.Hash(name) && sum.Hash(name) < c.Hi }
	switch c.Kind {
	case shard.Freeze:
		for _, p := range m.prepared {
			if slices.ContainsFunc(p.reads, in) || slices.ContainsFunc(p.writes, in) {
				return "later"
			}
		}
		if !every(c, func(h int) bool { return m.owned[h] }) {
			return "gone"
		}
		every(c, func(h int) bool { m.frozen[h] = true; return true })
		return "done data"
	case shard.Take:
		if c.Lo == c.Hi {
			return "done"
		}
		for name := range p.cases {
			if !in(name) {
				return "none"
			}
		}
		if p.data == nil || !every(c, func(h int) bool { return !m.owned[h] }) {
			return "none"
		}
		every(c, func(h int) bool { m.owned[h] = true; return true })
		for name, s := range p.cases {
			m.cases[name] = s
		}
	case shard.Leave:
		if !every(c, func(h int) bool { return m.owned[h] && m.frozen[h] }) {
			return "none"
		}
		every(c, func(h int) bool { m.owned[h], m.frozen[h] = false, false; return true })
		for name := range m.cases {
			if in(name) {
				delete(m.cases, name)
			}
		}
	}
	return "done"
}

// seen answers what seen of a shard does.
func (m *model) seen(txs ...string) string {
	var b strings.Builder
	var list, open []string
	for name := range m.cases {
		list = append(list, name)
	}
	for tx := range m.prepared {
		open = append(open, tx)
	}
	slices.Sort(list)
	slices.Sort(open)
	for _, name := range list {
		fmt.Fprintf(&b, "%s: %s true; ", name, stateText(m.cases[name]))
	}
	fmt.Fprintf(&b, "prepared %q; outcomes", open)
	for _, tx := range txs {
		fmt.Fprintf(&b, " %q %d", tx, m.outcomes[tx])
	}
	b.WriteString("; owns")
	for h := range 256 {
		if m.owned[h] {
			fmt.Fprintf(&b, " %d", h)
		}
	}
	return b.String()
}

// world is several shards, their models, and all that a Freeze of one of them answered.
type world struct {
	shards []*shard.Shard
	models []*model
	pool   []packed
	bytes  map[string]string // of cases in words, what a Freeze answered of them
	counts map[[2]int]int    // by the kinds of commands and of their answers
}

func newWorld(t *testing.T, cuts ...int) *world {
	w := &world{bytes: map[string]string{}, counts: map[[2]int]int{}, pool: []packed{{}}}
	for i := range len(cuts) - 1 {
		w.shards = append(w.shards, began(t, cuts[i], cuts[i+1]))
		w.models = append(w.models, newModel(ours(t), cuts[i], cuts[i+1]))
	}
	return w
}

// step lets shard k and its model do c, and looks whether they tell the same.
func (w *world) step(t *testing.T, what string, k int, c shard.Cmd, p packed, txs []string) {
	t.Helper()
	c.Data = p.data
	s, m := w.shards[k], w.models[k]
	cases := m.within(c)
	content := map[string]api.State{}
	for name, x := range m.cases {
		if h := sum.Hash(name); c.Lo <= h && h < c.Hi {
			content[name] = x
		}
	}
	a, want := s.Do(c), m.do(c, p)
	if told(a) != want {
		t.Fatalf("%s: shard %d: %+v: %s; not %s", what, k, c, told(a), want)
	}
	if got, want := seen(s, txs...), m.seen(txs...); got != want {
		t.Fatalf("%s: shard %d: %+v: %s; not %s", what, k, c, got, want)
	}
	w.counts[[2]int{c.Kind, a.Kind}]++
	if a.Data == nil {
		return
	}
	w.pool = append(w.pool, packed{a.Data, content})
	if data, ok := w.bytes[cases]; ok && data != string(a.Data) {
		t.Fatalf("%s: shard %d: %+v: other bytes of the same cases", what, k, c)
	}
	w.bytes[cases] = string(a.Data)
}

// some answers those of list on which operations may run, mostly: of names by chance alone one is nearly always away.
func (m *model) some(r *rand.Rand, list []string) []string {
	mine := slices.DeleteFunc(slices.Clone(list), func(name string) bool { return !m.owned[sum.Hash(name)] || m.frozen[sum.Hash(name)] })
	if len(mine) == 0 || r.Intn(8) == 0 {
		return list
	}
	return mine
}

// anyOp answers an operation on one of list, mostly one that may go well on s.
func anyOp(r *rand.Rand, s *shard.Shard, list []string) api.Op {
	names := []string{"loan", "note", "bare", "sum", "n", "pay", "shut", "zz"}
	o := api.Op{Kind: 1 + r.Intn(5), Case: list[r.Intn(len(list))], Name: names[r.Intn(len(names))], N: r.Intn(30) - 10}
	x, _ := s.Case(o.Case)
	switch {
	case r.Intn(60) == 0:
		o.Kind = r.Intn(9) - 1
	case r.Intn(12) == 0:
	case x.Type == "":
		o.Kind, o.Name = api.Create, names[r.Intn(3)]
	case x.Type == "bare" || r.Intn(3) == 0:
		o.Kind = api.Read
	case x.Type == "loan" && r.Intn(3) == 0:
		o.Kind, o.Name = api.Fire, names[5+r.Intn(2)]
	default:
		o.Kind, o.Name = api.Set+r.Intn(2), map[string]string{"loan": "sum", "note": "n"}[x.Type]
		o.N /= 2
	}
	return o
}

// anyCmd answers a command, now and then one that is none.
func anyCmd(r *rand.Rand, s *shard.Shard, list, txs []string) shard.Cmd {
	c := shard.Cmd{Kind: []int{1, 1, 1, 1, 2, 2, 2, 2, 2, 3, 4}[r.Intn(11)], Tx: txs[r.Intn(len(txs))]}
	if r.Intn(10) == 0 {
		c.Kind = 5 + r.Intn(3)
		c.Lo = []int{0, 50, 100, 150, 200, sum.Hash(list[r.Intn(len(list))])}[r.Intn(6)]
		c.Hi = min(256, c.Lo+[]int{0, 1, 50, 100, 200}[r.Intn(5)])
	}
	if c.Kind <= 2 {
		for range 1 + r.Intn(4) {
			c.Ops = append(c.Ops, anyOp(r, s, list))
			if r.Intn(2) == 0 {
				c.At = append(c.At, r.Intn(9))
			}
		}
		if len(c.At) < len(c.Ops) && r.Intn(20) > 0 {
			c.At = nil
		}
	}
	if r.Intn(50) == 0 {
		c.Kind, c.Lo, c.Hi = r.Intn(10), r.Intn(300)-20, r.Intn(300)-20
	}
	return c
}

// Shards that give each other cases, told any row of commands, answer as their models do; now and then one is saved and
// loaded, and goes on.
func TestP16_5_LongRows(t *testing.T) {
	sums := map[[2]int]int{}
	for n := range 50 {
		r := rand.New(rand.NewSource(int64(n)))
		w := newWorld(t, 0, 50, 100, 256)
		list := append(names(6+r.Intn(60)), "Z", "and", "a", "b")
		txs := []string{"", "p", "q"}
		for k := range 500 {
			txs = append(txs[:3], fmt.Sprint("t", k/12), fmt.Sprint("u", k/12), fmt.Sprint("v", k/12), fmt.Sprint("t", k/12-1))
			at := r.Intn(len(w.shards))
			c := anyCmd(r, w.shards[at], w.models[at].some(r, list), txs)
			if open := w.shards[at].Prepared(); (c.Kind == shard.Commit || c.Kind == shard.Abort) && len(open) > 0 && r.Intn(3) > 0 {
				c.Tx = open[r.Intn(len(open))]
			}
			p := packed{}
			if c.Kind == shard.Take {
				p = w.pool[len(w.pool)-1-r.Intn(min(len(w.pool), 4))]
			}
			w.step(t, fmt.Sprintf("row %d, step %d", n, k), at, c, p, txs)
			if r.Intn(9) == 0 {
				w.shards[at] = load(t, "row", w.shards[at].Save())
			}
		}
		for kinds, k := range w.counts {
			sums[kinds] += k
		}
	}
	for kind, words := range [][]int{{}, {1, 2, 3, 4, 6}, {1, 2, 3, 4, 5, 6}, {5, 6}, {5, 6}, {3, 4, 5, 6}, {5, 6}, {5, 6}} {
		for _, word := range words {
			if n := sums[[2]int{kind, word}]; n < 20 {
				t.Errorf("only %d of command %d were answered %s", n, kind, kindWord(word))
			}
		}
	}
}

// steps answers the commands of which all rows are tried.
func steps() []shard.Cmd {
	var list []shard.Cmd
	for _, tx := range []string{"t", "u"} {
		list = append(list, prepareOf(tx, set("a", "n", 3), read("a")), prepareOf(tx, read("a")), commitOf(tx), abortOf(tx))
	}
	h := sum.Hash("a")
	return append(list, onceOf(create("a", "note")), onceOf(add("a", "n", 1), read("a")), onceOf(read("a")), freezeOf(h, h+1), leaveOf(0, 256), freezeOf(0, 256), shard.Cmd{Kind: shard.Take, Lo: h, Hi: h + 1})
}

// All rows of up to four commands behind a case that is there or not.
func TestP16_5_EveryRow(t *testing.T) {
	list := steps()
	h := sum.Hash("a")
	x := packed{casesOf(1, row{"a", note(7)}), map[string]api.State{"a": {Type: "note", Vals: []int{7}, Done: []bool{}, Got: []bool{}}}}
	total := len(list) * len(list) * len(list) * len(list)
	for n := range 2 * total {
		s, _ := shard.New(typed(t, noteText), h, h+1)
		m := newModel(typed(t, noteText), h, h+1)
		if n >= total {
			s.Do(onceOf(create("a", "note")))
			m.do(onceOf(create("a", "note")), packed{})
		}
		for k, at := 0, n%total; k < 4; k, at = k+1, at/len(list) {
			c := list[at%len(list)]
			c.Data = x.data
			if got, want := told(s.Do(c)), m.do(c, x); got != want {
				t.Fatalf("row %d, step %d: %+v: %s; not %s", n, k, c, got, want)
			}
		}
		if n%7 == 0 {
			if got, want := seen(s, "t", "u"), m.seen("t", "u"); got != want {
				t.Fatalf("row %d: %s; not %s", n, got, want)
			}
		}
	}
}

// Two shards that are told the same are the same, each time, however often they are asked in between, and one that is
// loaded in between is, too.
func TestP16_5_TheSameCommands(t *testing.T) {
	for n := range 15 {
		r := rand.New(rand.NewSource(int64(100 + n)))
		x, y, z := began(t, 0, 200), began(t, 0, 200), began(t, 0, 200)
		list, txs := names(12), []string{"p", "q", "r", "s"}
		var data []byte
		for k := range 300 {
			c := anyCmd(r, x, list, txs)
			if c.Kind == shard.Take {
				c.Data = data
			}
			a, b, d := x.Do(c), y.Do(c), z.Do(c)
			if told(a) != told(b) || told(a) != told(d) || !bytes.Equal(a.Data, b.Data) || !bytes.Equal(a.Data, d.Data) {
				t.Fatalf("row %d, step %d: %+v: %s, %s, %s", n, k, c, told(a), told(b), told(d))
			}
			if a.Data != nil {
				data = a.Data
			}
			seen(y)
			y.Save()
			z = load(t, "z", z.Save())
		}
		if !bytes.Equal(x.Save(), y.Save()) || !bytes.Equal(x.Save(), z.Save()) {
			t.Errorf("row %d: saved as other bytes", n)
		}
	}
}

// Ahead of its Commit and behind its Abort nothing of a prepared one is seen: a shard that was not told of it answers
// the same to whoever does not want what it holds, and tells the same.
func TestP16_5_NothingIsSeen(t *testing.T) {
	for _, l := range [][]api.Op{
		{set("a", "sum", 60), fire("a", "pay"), read("a")}, {create("x", "note"), set("x", "n", 3), create("y", "loan"), create("w", "bare")},
		{read("a")}, {add("a", "sum", 1), create("x", "bare")}, {fire("a", "pay"), fire("a", "shut")},
	} {
		s, plain := filled(t, 27), filled(t, 27)
		for _, x := range []*shard.Shard{s, plain} {
			once(t, x, `yes [""]`, create("a", "loan"))
		}
		if a := s.Do(prepareOf("t", l...)); a.Kind != shard.Yes {
			t.Fatalf("%v: %s", l, told(a))
		}
		others := []shard.Cmd{
			onceOf(read("caaa")), onceOf(create("p", "note"), create("q", "note"), create("r", "note")), onceOf(create("z", "note")), onceOf(create("zz", "note")),
			onceOf(set("caab", "n", 4), read("caab")), onceOf(read("none")), prepareOf("u", add("caac", "n", 2)), commitOf("u"), abortOf("v"), commitOf("w"),
		}
		for _, c := range others {
			if a, b := s.Do(c), plain.Do(c); told(a) != told(b) {
				t.Errorf("%v: %+v: %s; not %s", l, c, told(a), told(b))
			}
		}
		alikeBut := func(what string) {
			t.Helper()
			got := strings.Replace(seen(s, "u", "v", "w"), `prepared ["t"]`, "prepared []", 1)
			if want := seen(plain, "u", "v", "w"); got != want {
				t.Errorf("%v: %s: %s; not %s", l, what, got, want)
			}
		}
		alikeBut("prepared")
		for _, o := range l {
			x, ok := s.Case(o.Case)
			y, is := plain.Case(o.Case)
			if ok != is || stateText(x) != stateText(y) {
				t.Errorf("%v: Case(%s): %s %t; not %s %t", l, o.Case, stateText(x), ok, stateText(y), is)
			}
		}
		does(t, s, "done", abortOf("t"))
		alikeBut("aborted")
		for _, c := range []shard.Cmd{onceOf(read("a")), freezeOf(0, 256)} {
			if a, b := s.Do(c), plain.Do(c); told(a) != told(b) || !bytes.Equal(a.Data, b.Data) {
				t.Errorf("%v: %+v behind its Abort: %s; not %s", l, c, told(a), told(b))
			}
		}
	}
}
