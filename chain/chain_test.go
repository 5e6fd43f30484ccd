package chain_test

import (
	"crypto/sha256"
	"fmt"
	"slices"
	"strings"
	"testing"

	"conclave/chain"
)

// headOf answers what Next is to answer, by another SHA-256 than the program's.
func headOf(head [32]byte, text string) [32]byte {
	return sha256.Sum256(slices.Concat(head[:], []byte(text)))
}

// linked answers the chain of these texts, made apart from package chain.
func linked(texts ...string) []chain.Link {
	var all []chain.Link
	var head [32]byte
	for _, text := range texts {
		head = headOf(head, text)
		all = append(all, chain.Link{Text: text, Head: head})
	}
	return all
}

// rows answers some lists of texts: short and long ones, texts that look like what stands beside them.
func rows() [][]string {
	head := headOf([32]byte{}, "")
	return [][]string{
		nil,
		{""},
		{"a"},
		{"", ""},
		{"a", "b"},
		{"b", "a"},
		{"ab", ""},
		{"", "ab"},
		{"a", "a", "a"},
		{"a", "bb", "", "c"},
		{"\x00", "\xff", "\xc3\x28", "\x00\x00"},
		{string(head[:]), string(head[:]) + "a", "\x00\x00\x00\x01a" + string(head[:])},
		{strings.Repeat("\x00", 32), strings.Repeat("\x00", 64)},
		{strings.Repeat("x", 22), strings.Repeat("x", 23), strings.Repeat("x", 24), strings.Repeat("x", 31), strings.Repeat("x", 32), strings.Repeat("x", 33)},
		{strings.Repeat("y", 3999), strings.Repeat("z", 4000)},
		strings.Split(strings.Repeat("ab,a,", 40), ","),
	}
}

func TestP19_1_Next(t *testing.T) {
	heads := [][32]byte{{}, {1}, {31: 1}, headOf([32]byte{}, "")}
	for n := range 256 {
		var head [32]byte
		for k := range head {
			head[k] = byte(n + k)
		}
		heads = append(heads, head)
	}
	for _, head := range heads {
		for _, texts := range rows() {
			for _, text := range texts {
				if chain.Next(head, text) != headOf(head, text) {
					t.Fatalf("Next(%x, %q)", head, text)
				}
			}
		}
	}
}

func TestP19_1_NextOfEveryLength(t *testing.T) {
	var head [32]byte
	for n := range 300 {
		text := strings.Repeat("q", n)
		if got := chain.Next(head, text); got != headOf(head, text) {
			t.Fatalf("Next of a text of %d bytes: %x", n, got)
		}
		head = chain.Next(head, text)
	}
	for _, n := range []int{4000, 4001, 1 << 20} {
		text := strings.Repeat("q", n)
		if chain.Next(head, text) != headOf(head, text) {
			t.Errorf("Next of a text of %d bytes", n)
		}
	}
}

// What a Head is of is the bytes of both, the head first, and nothing between.
func TestP19_1_NextHangsOnEachByte(t *testing.T) {
	head := headOf([32]byte{}, "ahead")
	text := "some text"
	is := chain.Next(head, text)
	for k := range head {
		turned := head
		turned[k] ^= 0x80
		if chain.Next(turned, text) == is {
			t.Errorf("byte %d of the head is not in it", k)
		}
	}
	for k := range text {
		if chain.Next(head, text[:k]+"\x80"+text[k+1:]) == is || chain.Next(head, text[:k]) == is {
			t.Errorf("byte %d of the text is not in it", k)
		}
	}
}

func TestP19_1_Make(t *testing.T) {
	for _, texts := range rows() {
		if got := chain.Make(texts); !slices.Equal(got, linked(texts...)) {
			t.Errorf("Make(%q): %v", texts, got)
		}
	}
	many := make([]string, 5000)
	for k := range many {
		many[k] = fmt.Sprint(k)
	}
	if !slices.Equal(chain.Make(many), linked(many...)) {
		t.Errorf("Make of %d texts", len(many))
	}
}

func TestP19_1_Check(t *testing.T) {
	for _, texts := range rows() {
		for _, l := range [][]chain.Link{chain.Make(texts), linked(texts...)} {
			if got := chain.Check(l); got != len(l) {
				t.Errorf("Check of the chain of %q: %d", texts, got)
			}
		}
	}
}

func TestP19_1_CheckOfTurned(t *testing.T) {
	for _, texts := range rows() {
		l := linked(texts...)
		for k := range l {
			turned := func(what string, x chain.Link) {
				t.Helper()
				y := slices.Clone(l)
				y[k] = x
				if got := chain.Check(y); got != k {
					t.Errorf("%q: %s of %d turned: %d", texts, what, k, got)
				}
			}
			turned("longer Text", chain.Link{Text: l[k].Text + "\x00", Head: l[k].Head})
			turned("Text", chain.Link{Text: "turned", Head: l[k].Head})
			turned("all", chain.Link{Text: "turned", Head: headOf([32]byte{1}, "turned")})
			turned("Head that is none", chain.Link{Text: l[k].Text})
			if l[k].Text != "" {
				turned("shorter Text", chain.Link{Text: l[k].Text[1:], Head: l[k].Head})
			}
			for n := range 32 {
				for _, bit := range []byte{1, 0x80} {
					x := l[k]
					x.Head[n] ^= bit
					turned("Head", x)
				}
			}
		}
	}
}

// Of many that are wrong the first is told.
func TestP19_1_CheckTellsTheFirst(t *testing.T) {
	l := linked("a", "b", "c", "d", "e")
	for set := range 1 << len(l) {
		x := slices.Clone(l)
		first := len(l)
		for k := len(l) - 1; k >= 0; k-- {
			if set>>k&1 == 1 {
				x[k].Head[7] ^= 4
				first = k
			}
		}
		if got := chain.Check(x); got != first {
			t.Errorf("set %b: %d, not %d", set, got, first)
		}
	}
}

// A Link that is right behind the one that was ahead of it is wrong behind another one, and as the first.
func TestP19_1_CheckOfOtherOrders(t *testing.T) {
	l := linked("a", "b", "c", "d")
	for k := range l {
		if got, want := chain.Check(l[k:]), len(l); k == 0 && got != want || k > 0 && got != 0 {
			t.Errorf("Check of the last %d: %d", len(l)-k, got)
		}
		if got := chain.Check(slices.Delete(slices.Clone(l), k, k+1)); got != k {
			t.Errorf("Check without %d: %d", k, got)
		}
		if got, want := chain.Check(slices.Insert(slices.Clone(l), k, l[k])), k+1; got != want {
			t.Errorf("Check with %d twice: %d, not %d", k, got, want)
		}
		for i := range k {
			x := slices.Clone(l)
			if x[i], x[k] = x[k], x[i]; chain.Check(x) != i {
				t.Errorf("Check with %d and %d in each other's place: %d", i, k, chain.Check(x))
			}
		}
	}
	alone := make([]chain.Link, 3)
	for k, text := range []string{"a", "b", "c"} {
		alone[k] = linked(text)[0]
	}
	if got := chain.Check(alone); got != 1 {
		t.Errorf("Check of three, each as if it were the first: %d", got)
	}
}

func TestP19_2_Texts(t *testing.T) {
	for _, texts := range rows() {
		if got := chain.Texts(linked(texts...)); !slices.Equal(got, texts) {
			t.Errorf("Texts: %q, not %q", got, texts)
		}
	}
	if got := chain.Texts([]chain.Link{{Text: "b"}, {Text: "a", Head: [32]byte{1}}, {Text: "b"}}); !slices.Equal(got, []string{"b", "a", "b"}) {
		t.Errorf("Texts of what is no chain: %q", got)
	}
}

func TestP19_Runs(t *testing.T) {
	a, b, both := chain.Make([]string{"a"}), chain.Make([]string{"b"}), chain.Make([]string{"a", "b"})
	if got := chain.Check(both); got != 2 {
		t.Errorf("Check(Make(a, b)): %d", got)
	}
	if !chain.Prefix(a, both) || chain.Prefix(a, b) {
		t.Error("Prefix(Make(a), Make(a, b)) · Prefix(Make(a), Make(b))")
	}
}

func TestP19_Examples(t *testing.T) {
	if got := chain.Make(nil); len(got) != 0 {
		t.Errorf("Make of nothing: %v", got)
	}
	l := chain.Make([]string{"a", "b", "c"})
	l[1].Text = "d"
	if got := chain.Check(l); got != 1 {
		t.Errorf("Check with a turned Text: %d", got)
	}
}

// every calls see with all lists of up to most texts of these.
func every(most int, texts []string, see func(l []string)) {
	var from func(l []string)
	from = func(l []string) {
		see(l)
		if len(l) < most {
			for _, text := range texts {
				from(append(slices.Clone(l), text))
			}
		}
	}
	from(nil)
}

// With the same last Head, and as many, two chains have the same texts; and the same texts have the same Heads.
func TestP19_3_LastHeadTellsTexts(t *testing.T) {
	type end struct {
		many int
		head [32]byte
	}
	head := headOf([32]byte{}, "a")
	seen := map[end][]string{}
	count := 0
	every(5, []string{"", "a", "b", "aa", "ab", string(head[:])}, func(texts []string) {
		if len(texts) == 0 {
			return
		}
		count++
		l := chain.Make(texts)
		if chain.Check(l) != len(l) {
			t.Fatalf("%q: Check", texts)
		}
		last := end{len(l), l[len(l)-1].Head}
		if other, ok := seen[last]; ok {
			t.Fatalf("%q and %q have the same last Head", texts, other)
		}
		seen[last] = slices.Clone(texts)
		if !slices.Equal(chain.Make(texts), l) {
			t.Fatalf("%q: other Heads when it is made again", texts)
		}
	})
	if len(seen) != count || count != 6+36+216+1296+7776 {
		t.Errorf("%d last Heads of %d chains", len(seen), count)
	}
}

// Whoever turns one text must turn all Heads from there on, the last one too.
func TestP19_3_EachTextIsInTheLastHead(t *testing.T) {
	for _, texts := range rows() {
		l := chain.Make(texts)
		for k := range texts {
			turned := slices.Clone(texts)
			turned[k] += "."
			other := chain.Make(turned)
			if !slices.Equal(other[:k], l[:k]) {
				t.Errorf("%q: text %d is in a Head ahead of it", texts, k)
			}
			for n := k; n < len(l); n++ {
				if other[n].Head == l[n].Head {
					t.Errorf("%q: text %d is not in the Head of %d", texts, k, n)
				}
			}
		}
	}
}
