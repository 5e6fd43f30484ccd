package shard_test

import (
	"fmt"
	"math"
	"slices"
	"strings"
	"testing"

	"conclave/api"
	"conclave/cases"
	"conclave/guard"
	"conclave/schema"
	"conclave/shard"
	"conclave/sum"
)

// The types of these tests.
const (
	loanText = "type loan; attr sum 5 0 100; stage pay lt 0 sum; stage shut pay; mark big lt 50 sum"
	noteText = "type note; attr n 0 -9 9"
	bareText = "type bare; mark on 1"
)

func typed(t *testing.T, texts ...string) []api.Type {
	t.Helper()
	var all []api.Type
	for _, s := range texts {
		x, why, _ := schema.Read(s)
		if why != api.OK {
			t.Fatalf("%s: %d", s, why)
		}
		all = append(all, x)
	}
	return all
}

func ours(t *testing.T) []api.Type { return typed(t, loanText, noteText, bareText) }

// began answers a new shard of these tests' types.
func began(t *testing.T, lo, hi int) *shard.Shard {
	t.Helper()
	s, why := shard.New(ours(t), lo, hi)
	if s == nil || why != api.OK {
		t.Fatalf("New(%d, %d): %v, %d", lo, hi, s != nil, why)
	}
	return s
}

func create(c, name string) api.Op     { return api.Op{Kind: api.Create, Case: c, Name: name} }
func set(c, name string, n int) api.Op { return api.Op{Kind: api.Set, Case: c, Name: name, N: n} }
func add(c, name string, n int) api.Op { return api.Op{Kind: api.Add, Case: c, Name: name, N: n} }
func fire(c, name string) api.Op       { return api.Op{Kind: api.Fire, Case: c, Name: name} }
func read(c string) api.Op             { return api.Op{Kind: api.Read, Case: c} }

func onceOf(l ...api.Op) shard.Cmd { return shard.Cmd{Kind: shard.Once, Ops: l} }

func prepareOf(tx string, l ...api.Op) shard.Cmd {
	return shard.Cmd{Kind: shard.Prepare, Tx: tx, Ops: l}
}

func commitOf(tx string) shard.Cmd { return shard.Cmd{Kind: shard.Commit, Tx: tx} }
func abortOf(tx string) shard.Cmd  { return shard.Cmd{Kind: shard.Abort, Tx: tx} }

func freezeOf(lo, hi int) shard.Cmd { return shard.Cmd{Kind: shard.Freeze, Lo: lo, Hi: hi} }
func leaveOf(lo, hi int) shard.Cmd  { return shard.Cmd{Kind: shard.Leave, Lo: lo, Hi: hi} }

func takeOf(lo, hi int, data []byte) shard.Cmd {
	return shard.Cmd{Kind: shard.Take, Lo: lo, Hi: hi, Data: data}
}

// names answers the names of n cases, in order of bytes.
func names(n int) []string {
	var all []string
	for k := range n {
		all = append(all, "c"+string(rune('a'+k/676%26))+string(rune('a'+k/26%26))+string(rune('a'+k%26)))
	}
	return all
}

// ofHash answers n names of cases whose Hash is h, in order of bytes.
func ofHash(h, n int) []string {
	var all []string
	for _, name := range names(26 * 676) {
		if sum.Hash(name) == h && len(all) < n {
			all = append(all, name)
		}
	}
	return all
}

// one has for each Hash the name of a case.
var one = func() (all [256]string) {
	for _, name := range names(26 * 676) {
		if h := sum.Hash(name); all[h] == "" {
			all[h] = name
		}
	}
	return all
}()

// kindWord answers the word for an answer's Kind.
func kindWord(kind int) string {
	switch kind {
	case shard.Yes:
		return "yes"
	case shard.No:
		return "no"
	case shard.Later:
		return "later"
	case shard.Gone:
		return "gone"
	case shard.Done:
		return "done"
	case shard.None:
		return "none"
	}
	return fmt.Sprint("kind ", kind)
}

// told answers a in words; what stands in it without a meaning stands there too.
func told(a shard.Answer) string {
	out := kindWord(a.Kind)
	if a.Kind == shard.Yes || len(a.Texts) > 0 {
		out += fmt.Sprintf(" %q", a.Texts)
	}
	if a.Kind == shard.No || a.At != 0 || a.Why != 0 {
		out += fmt.Sprintf(" %d %d", a.At, int(a.Why))
	}
	if len(a.Data) > 0 {
		out += " data"
	}
	return out
}

func stateText(x api.State) string {
	return fmt.Sprintf("%s %v %v %v", x.Type, x.Vals, x.Done, x.Got)
}

// seen answers in words what a shard tells, but for what Save does; of the outcomes those of txs.
func seen(s *shard.Shard, txs ...string) string {
	var b strings.Builder
	for _, name := range s.Cases() {
		x, ok := s.Case(name)
		fmt.Fprintf(&b, "%s: %s %t; ", name, stateText(x), ok)
	}
	fmt.Fprintf(&b, "prepared %q; outcomes", s.Prepared())
	for _, tx := range txs {
		fmt.Fprintf(&b, " %q %d", tx, s.Outcome(tx))
	}
	b.WriteString("; owns")
	for h, name := range one {
		if s.Owns(name) {
			fmt.Fprintf(&b, " %d", h)
		}
	}
	return b.String()
}

// turns tells whether an answer of that kind says that something may have turned.
func turns(kind int) bool { return kind == shard.Yes || kind == shard.Done }

// does looks whether s answers c by want, and turns nothing if that is a refusal.
func does(t *testing.T, s *shard.Shard, want string, c shard.Cmd) shard.Answer {
	t.Helper()
	before, saved := seen(s, c.Tx), string(s.Save())
	a := s.Do(c)
	if told(a) != want {
		t.Errorf("%+v: %s; not %s", c, told(a), want)
	}
	if !turns(a.Kind) && (seen(s, c.Tx) != before || string(s.Save()) != saved) {
		t.Errorf("%+v: %s, and it turned %s into %s", c, told(a), before, seen(s, c.Tx))
	}
	return a
}

// same looks whether s answers c by want, and turns nothing, whatever that is.
func same(t *testing.T, s *shard.Shard, want string, c shard.Cmd) {
	t.Helper()
	before, saved := seen(s, c.Tx), string(s.Save())
	does(t, s, want, c)
	if seen(s, c.Tx) != before || string(s.Save()) != saved {
		t.Errorf("%+v turned %s into %s", c, before, seen(s, c.Tx))
	}
}

func once(t *testing.T, s *shard.Shard, want string, l ...api.Op) {
	t.Helper()
	does(t, s, want, onceOf(l...))
}

func prepare(t *testing.T, s *shard.Shard, want, tx string, l ...api.Op) {
	t.Helper()
	does(t, s, want, prepareOf(tx, l...))
}

// has looks whether these cases are there and no others.
func has(t *testing.T, s *shard.Shard, want ...string) {
	t.Helper()
	if got := s.Cases(); !slices.Equal(got, want) {
		t.Errorf("Cases: %q; not %q", got, want)
	}
}

func prepared(t *testing.T, s *shard.Shard, want ...string) {
	t.Helper()
	if got := s.Prepared(); !slices.Equal(got, want) {
		t.Errorf("Prepared: %q; not %q", got, want)
	}
}

func outcome(t *testing.T, s *shard.Shard, tx string, want int) {
	t.Helper()
	if got := s.Outcome(tx); got != want {
		t.Errorf("Outcome(%q): %d; not %d", tx, got, want)
	}
}

// is looks whether the case is there as text tells it; not there, if that is empty.
func is(t *testing.T, s *shard.Shard, name, text string) {
	t.Helper()
	x, ok := s.Case(name)
	got := ""
	for _, k := range ours(t) {
		if k.Name == x.Type {
			got = cases.Text(k, x)
		}
	}
	if got != text || ok != (text != "") || !ok && stateText(x) != stateText(api.State{}) {
		t.Errorf("Case(%q): %s %t; not %q", name, stateText(x), ok, text)
	}
}

// filled answers a shard with n notes.
func filled(t *testing.T, n int) *shard.Shard {
	t.Helper()
	s := began(t, 0, 256)
	for _, name := range names(n) {
		once(t, s, `yes [""]`, create(name, "note"))
	}
	return s
}

func TestTheNamesOfTheseTests(t *testing.T) {
	for h, name := range one {
		if sum.Hash(name) != h || !guard.Name(name) {
			t.Errorf("%q is no name of Hash %d", name, h)
		}
	}
}

func TestP16_1_Types(t *testing.T) {
	four := []api.Type{{Name: "a"}, {Name: "b"}, {Name: "c"}, {Name: "d"}}
	five := append(slices.Clone(four), api.Type{Name: "e"})
	loan := ours(t)[0]
	crowded := loan
	crowded.Marks = make([]api.Rule, api.MaxItems+1)
	for what, c := range map[string]struct {
		types []api.Type
		want  api.Errno
	}{
		"none":                           {nil, api.OK},
		"an empty list":                  {[]api.Type{}, api.OK},
		"one":                            {four[:1], api.OK},
		"four":                           {four, api.OK},
		"five":                           {five, api.ErrArg},
		"five of one name":               {make([]api.Type, 5), api.ErrArg},
		"without a name":                 {[]api.Type{{}}, api.ErrArg},
		"a name that is none":            {[]api.Type{loan, {Name: "Loan"}}, api.ErrArg},
		"an attribute beyond its bounds": {[]api.Type{{Name: "a", Attrs: []api.Attr{{Name: "n", Start: 2, Lo: 0, Hi: 1}}}}, api.ErrArg},
		"a guard that names nothing":     {[]api.Type{{Name: "a", Stages: []api.Rule{{Name: "s", Guard: "late"}}}}, api.ErrArg},
		"a guard that is none":           {[]api.Type{{Name: "a", Marks: []api.Rule{{Name: "s", Guard: ""}}}}, api.ErrArg},
		"too many marks":                 {[]api.Type{crowded}, api.ErrArg},
		"one name twice":                 {[]api.Type{{Name: "a"}, {Name: "a"}}, api.ErrArg},
		"one name, not alike":            {[]api.Type{loan, {Name: "loan"}}, api.ErrArg},
		"one name with one between":      {[]api.Type{{Name: "a"}, {Name: "b"}, {Name: "a"}}, api.ErrArg},
		"one name, the last two":         {[]api.Type{{Name: "a"}, {Name: "b"}, {Name: "c"}, {Name: "c"}}, api.ErrArg},
	} {
		if s, why := shard.New(c.types, 0, 256); why != c.want || (s != nil) != (why == api.OK) {
			t.Errorf("%s: %v, %d", what, s != nil, why)
		}
	}
	for at := range four {
		wrong := slices.Clone(four)
		wrong[at].Name = "type"
		if s, why := shard.New(wrong, 0, 256); s != nil || why != api.ErrArg {
			t.Errorf("wrong at %d: %v, %d", at, s != nil, why)
		}
	}
}

func TestP16_1_Bounds(t *testing.T) {
	edges := []int{math.MinInt, -256, -1, 0, 1, 2, 127, 128, 254, 255, 256, 257, 512, 1 << 32, math.MaxInt}
	for _, lo := range edges {
		for _, hi := range edges {
			want := api.ErrArg
			if 0 <= lo && lo <= hi && hi <= 256 {
				want = api.OK
			}
			if s, why := shard.New(ours(t), lo, hi); why != want || (s != nil) != (want == api.OK) {
				t.Errorf("New(%d, %d): %v, %d", lo, hi, s != nil, why)
			}
		}
	}
}

// It owns from lo to, but without, hi: by Owns, and by who may be created.
func TestP16_1_Owned(t *testing.T) {
	for _, c := range [][2]int{{0, 256}, {0, 0}, {256, 256}, {9, 9}, {0, 1}, {255, 256}, {1, 255}, {7, 8}, {100, 200}, {128, 256}} {
		s := began(t, c[0], c[1])
		for h, name := range one {
			want := c[0] <= h && h < c[1]
			if got := s.Owns(name); got != want {
				t.Errorf("%v: Owns of Hash %d: %t", c, h, got)
			}
		}
		for _, h := range []int{c[0] - 1, c[0], c[1] - 1, c[1]} {
			if h < 0 || h > 255 {
				continue
			}
			want := "gone"
			if c[0] <= h && h < c[1] {
				want = `yes [""]`
			}
			does(t, s, want, onceOf(create(ofHash(h, 2)[1], "note")))
			does(t, s, want, prepareOf(fmt.Sprint("t", h), create(ofHash(h, 3)[2], "note")))
			if c[1]-c[0] == 1 {
				break
			}
		}
	}
}

func TestP16_1_NewHasNothing(t *testing.T) {
	s := began(t, 0, 256)
	has(t, s)
	prepared(t, s)
	for _, name := range []string{"", "a", "loan", "t"} {
		is(t, s, name, "")
		outcome(t, s, name, api.Open)
		if !s.Owns(name) {
			t.Errorf("Owns(%q): false", name)
		}
	}
}

func TestP16_3_Runs(t *testing.T) {
	s := began(t, 0, 256)
	once(t, s, `yes [""]`, create("a", "loan"))
	once(t, s, `yes ["loan sum=5"]`, read("a"))
	prepare(t, s, `yes [""]`, "t", set("a", "sum", 7))
	once(t, s, "later", read("a"))
	does(t, s, "done", commitOf("t"))
	once(t, s, `yes ["loan sum=7"]`, read("a"))
}

func TestP16_3_Examples(t *testing.T) {
	s := began(t, 0, 256)
	does(t, s, "none", commitOf("nobody"))
	outcome(t, s, "nobody", api.Open)
	does(t, s, "done", abortOf("t"))
	prepare(t, s, "done", "t", create("a", "loan"))
	prepared(t, s)
	has(t, s)
	outcome(t, s, "t", api.Aborted)
}
