package guard_test

import (
	"fmt"
	"strings"
	"testing"

	"conclave/api"
	"conclave/guard"
)

// named looks whether Name answers want.
func named(t *testing.T, s string, want bool) {
	t.Helper()
	if got := guard.Name(s); got != want {
		t.Errorf("Name(%.60q): %v", s, got)
	}
}

// operations: those of one guard, then those of two.
func operations() []string { return []string{"not", "and", "or", "lt", "eq", "add", "sub"} }

// ofTwo: the operations of two guards.
func ofTwo() []string { return operations()[1:] }

// kept: these words are no names and no operations.
func kept() []string { return []string{"type", "attr", "stage", "mark"} }

// letters answers n small letters that are no word of the language's own.
func letters(n int) string { return "abcdefghijklmnopqrstuvwxyz"[:n] }

func isSmall(b byte) bool { return b >= 'a' && b <= 'z' }

func TestName_HowLong(t *testing.T) {
	named(t, "", false)
	for n := 1; n <= api.MaxName; n++ {
		named(t, letters(n), true)
		named(t, strings.Repeat("z", n), true)
	}
	for n := api.MaxName + 1; n <= 26; n++ {
		named(t, letters(n), false)
	}
	for _, n := range []int{api.MaxName + 1, 120, 121, 256 + 5, 1 << 16, 1<<16 + 3, 1 << 20} {
		named(t, strings.Repeat("z", n), false)
	}
}

func TestName_WordsOfTheLanguage(t *testing.T) {
	for _, s := range append(operations(), kept()...) {
		named(t, s, false)
		named(t, s+"x", true)
		named(t, "x"+s, true)
		named(t, s[1:], true)
		named(t, s[:len(s)-1], true)
		named(t, s+s, true)
		named(t, strings.ToUpper(s[:1])+s[1:], false)
		named(t, strings.ToUpper(s), false)
		named(t, " "+s, false)
		named(t, s+" ", false)
	}
	for _, s := range []string{"nota", "ad", "ands", "nand", "types", "attribute", "stag", "marks", "true", "false", "mul", "ne", "gt", "le", "if", "xor", "case"} {
		named(t, s, true)
	}
}

func TestName_EachByte(t *testing.T) {
	for n := range 256 {
		b := string([]byte{byte(n)})
		small := isSmall(byte(n))
		named(t, b, small)
		named(t, b+"bc", small)
		named(t, "xy"+b, small)
		named(t, "x"+b+"y", small)
		named(t, letters(api.MaxName-1)+b, small)
		named(t, letters(api.MaxName)+b, false)
		named(t, b+letters(api.MaxName), false)
	}
}

func TestName_OtherThings(t *testing.T) {
	for _, s := range []string{" ", "  ", " a", "a ", " a ", "a b", "a  b", "A", "aB", "a1", "1a", "1", "-1", "-", "-a", "a-b", "a_b", "a\x00", "\x00", "a\n", "a\tb", "é", "aé", "\x80", "\xff", "and 1", "not a", "a;"} {
		named(t, s, false)
	}
}

// A name is a word, and what is no name is no word that asks for one.
func TestName_AsCheckSeesIt(t *testing.T) {
	for _, s := range append(append(operations(), kept()...), "a", letters(12), letters(13), "A", "a1", "1", "-", "a-b", "é") {
		why, at := guard.Check(s, []string{s})
		if got := why == api.OK && strings.Trim(s, "-0123456789") != ""; got != guard.Name(s) {
			t.Errorf("%s: Name is %v, and Check answers %d at %d", s, guard.Name(s), why, at)
		}
		if got, want := fmt.Sprint(guard.Uses(s)) != "[]", guard.Name(s); got != want {
			t.Errorf("%s: Name is %v, and Uses answers %v", s, want, guard.Uses(s))
		}
	}
}
