package guard_test

import (
	"fmt"
	"slices"
	"strings"
	"testing"

	"conclave/api"
	"conclave/guard"
)

// uses looks whether Uses answers want.
func uses(t *testing.T, s string, want ...string) {
	t.Helper()
	if got := guard.Uses(s); !slices.Equal(got, want) {
		t.Errorf("Uses(%.140q): %.200q; not %.200q", s, got, want)
	}
}

func TestP12_3_OfGuards(t *testing.T) {
	uses(t, "1")
	uses(t, "-7")
	uses(t, "a", "a")
	uses(t, "not a", "a")
	uses(t, "and lt a 5 not b", "a", "b")
	uses(t, "add b a", "a", "b")
	uses(t, "add a a", "a")
	uses(t, "and 1 2")
	uses(t, "sub add z y add x add y z", "x", "y", "z")
	uses(t, "  eq   a    b  ", "a", "b")
}

func TestP12_3_OrderOfBytes(t *testing.T) {
	uses(t, "b a", "a", "b")
	uses(t, "c b a", "a", "b", "c")
	uses(t, "b a b a b", "a", "b")
	uses(t, "ab b aa a abc ba", "a", "aa", "ab", "abc", "b", "ba")
	uses(t, "z zz zzz "+strings.Repeat("z", 12)+" y", "y", "z", "zz", "zzz", strings.Repeat("z", 12))
	var all []string
	for n := range 26 {
		all = append(all, string(rune('z'-n)))
	}
	want := slices.Clone(all)
	slices.Reverse(want)
	uses(t, strings.Join(all, " "), want...)
	uses(t, strings.Join(append(all, all...), "  "), want...)
}

func TestP12_3_OfNoGuards(t *testing.T) {
	uses(t, "")
	uses(t, "     ")
	uses(t, "and")
	uses(t, "and a", "a")
	uses(t, "a b c", "a", "b", "c")
	uses(t, "1 2 x", "x")
	uses(t, "? a ? b", "a", "b")
	uses(t, "12345 a - b --1 c", "a", "b", "c")
	uses(t, strings.Repeat("not ", 30)+"deep", "deep")
	uses(t, strings.Repeat("or a ", 30)+"deep", "a", "deep")
	uses(t, "type a attr b stage c mark d", "a", "b", "c", "d")
	uses(t, strings.Join(operations(), " "))
	uses(t, strings.Join(kept(), " "))
}

func TestP12_3_WordsThatAreNone(t *testing.T) {
	uses(t, "A a1 1a a-b -a a_b a; ;a a,b a\tb a\nb \x00 a\x00 é aé \xff a\xff")
	uses(t, letters(13)+" "+letters(12)+" "+letters(26), letters(12))
	uses(t, "A Not AND tYPE b1 xX")
	for n := range 256 {
		b := string([]byte{byte(n)})
		s := "x" + b + "y q" + b + " " + b + "p"
		switch {
		case n == ' ':
			uses(t, s, "p", "q", "x", "y")
		case isSmall(byte(n)):
			want := []string{b + "p", "q" + b, "x" + b + "y"}
			slices.Sort(want)
			want = slices.DeleteFunc(want, func(w string) bool { return w == "eq" })
			uses(t, s, slices.Compact(want)...)
		default:
			uses(t, s)
			uses(t, s+" z", "z")
		}
	}
}

func TestP12_3_LongTexts(t *testing.T) {
	uses(t, strings.Repeat(" ", 119)+"a", "a")
	uses(t, strings.Repeat(" ", 120)+"a", "a")
	uses(t, strings.Repeat("b ", 60)+"a", "a", "b")
	uses(t, strings.Repeat("b a ", 1<<18), "a", "b")
	uses(t, strings.Repeat("a", 1<<20))
	uses(t, strings.Repeat("?", 1<<20)+" a", "a")
	uses(t, strings.Repeat(" ", 1<<20)+"a"+strings.Repeat(" ", 1<<20), "a")
}

// spell answers a name for n, another one for each.
func spell(n int) string {
	b := []byte("xxxxxx")
	for i := range b {
		b[i] = byte('a' + n%26)
		n /= 26
	}
	return string(b)
}

func TestP12_3_ManyNames(t *testing.T) {
	const many = 1 << 17
	var b strings.Builder
	var want []string
	for n := range many {
		fmt.Fprint(&b, spell(n), " ", spell(many-1-n), " ")
		want = append(want, spell(n))
	}
	slices.Sort(want)
	uses(t, b.String(), want...)
}

// What Uses answers are names over which Check finds every name.
func TestP12_3_AsCheckSeesThem(t *testing.T) {
	for _, s := range append(refused(), "and lt a 5 not b", "add zz yy", "sub "+letters(12)+" 1", "a b zz") {
		all := guard.Uses(s)
		for _, n := range all {
			if !guard.Name(n) {
				t.Errorf("Uses(%q): %q, which is no name", s, n)
			}
		}
		if why, at := guard.Check(s, all); why == api.ErrName {
			t.Errorf("Check(%q) over what it Uses: %d at %d", s, why, at)
		}
	}
}
