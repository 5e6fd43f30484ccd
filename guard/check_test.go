package guard_test

import (
	"strings"
	"testing"

	"conclave/api"
	"conclave/guard"
)

// checks looks whether Check answers why and at.
func checks(t *testing.T, s string, names []string, why api.Errno, at int) {
	t.Helper()
	if gotWhy, gotAt := guard.Check(s, names); gotWhy != why || gotAt != at {
		t.Errorf("Check(%.140q, %.60q): %d at %d; not %d at %d", s, names, gotWhy, gotAt, why, at)
	}
}

// ab: names that most tests take.
func ab() []string { return []string{"a", "b"} }

// right looks whether Check lets s pass, over a and b.
func right(t *testing.T, s string) {
	t.Helper()
	checks(t, s, ab(), api.OK, 0)
}

// noWord looks whether s is refused as no word, wherever it stands.
func noWord(t *testing.T, s string) {
	t.Helper()
	for _, ahead := range []string{"", " ", "   ", "not ", "add 1 ", "and not a  ", "1 ", "add a b "} {
		for _, behind := range []string{"", " ", " 1", " ?", "  zz  "} {
			checks(t, ahead+s+behind, ab(), api.ErrForm, len(ahead))
		}
	}
}

func TestP12_1_Runs(t *testing.T) {
	checks(t, "and 1", nil, api.ErrEnd, 5)
	checks(t, "1 2", nil, api.ErrTail, 2)
	checks(t, "foo", nil, api.ErrName, 0)
}

func TestP12_1_Examples(t *testing.T) {
	checks(t, "-7", nil, api.OK, 0)
	checks(t, "", nil, api.ErrEnd, 0)
	checks(t, "12345", nil, api.ErrForm, 0)
}

func TestP12_1_RightGuards(t *testing.T) {
	for _, s := range []string{
		"a", "b", "0", "-1", "not a", "not 5", "and a b", "or a b", "lt a 5", "eq a b", "add a -1", "sub 0 a",
		"and lt a 5 not b", "not not not a", "and and 1 2 3", "and 1 and 2 3", "sub add a 1 lt b 2", "eq not a not b",
		"or or or or 1 2 3 4 5", "or 1 or 2 or 3 or 4 5", "and or a b or not a not b",
	} {
		right(t, s)
	}
}

func TestP12_1_Numbers(t *testing.T) {
	for _, s := range []string{"0", "7", "9", "10", "99", "123", "999", "1000", "9999", "0000", "0001", "00"} {
		for _, s := range []string{s, "-" + s} {
			right(t, s)
			right(t, " "+s+" ")
			right(t, "not "+s)
			right(t, "add "+s+" "+s)
		}
	}
}

func TestP12_1_NoNumbers(t *testing.T) {
	for _, s := range []string{
		"12345", "00000", "00001", "123456", strings.Repeat("1", 60), "-12345", "-00000", "-123456", "-" + strings.Repeat("0", 60),
		"-", "--", "---", "--1", "--1234", "-1-", "1-", "1-1", "-1-1", "1234-", "-1234-", "+1", "+", "1+", "-+1", "+-1",
		"1.0", "1,0", "1e1", "0x1", "1_0",
	} {
		noWord(t, s)
	}
}

func TestP12_1_LettersAndDigits(t *testing.T) {
	for _, s := range []string{
		"1a", "a1", "-a", "-1a", "a-", "a-1", "a-b", "ab12", "12ab", "1234a", "12345a", "-1234a", "a1b", "1a1",
		"1and", "and1", "not1", "-not", "not-", "1type", letters(12) + "1", "1" + letters(12),
	} {
		noWord(t, s)
	}
}

func TestP12_1_NamesTooLong(t *testing.T) {
	checks(t, letters(12), []string{letters(12)}, api.OK, 0)
	checks(t, letters(12), []string{letters(11), letters(13)}, api.ErrName, 0)
	for n := api.MaxName + 1; n <= 26; n++ {
		noWord(t, letters(n))
		checks(t, letters(n), []string{letters(n), letters(12)}, api.ErrForm, 0)
	}
}

func TestP12_1_KeptWords(t *testing.T) {
	for _, s := range kept() {
		noWord(t, s)
		checks(t, s, []string{s}, api.ErrForm, 0)
		checks(t, s+"s", []string{s + "s"}, api.OK, 0)
		checks(t, s+"s", []string{s}, api.ErrName, 0)
	}
}

func TestP12_1_OperationsAreNoNames(t *testing.T) {
	for _, s := range operations() {
		checks(t, s, []string{s}, api.ErrEnd, len(s))
		checks(t, "1 "+s, []string{s}, api.ErrTail, 2)
		noWord(t, strings.ToUpper(s))
		noWord(t, strings.ToUpper(s[:1])+s[1:])
		checks(t, s+"x", ab(), api.ErrName, 0)
		checks(t, s[1:], ab(), api.ErrName, 0)
	}
}

// Every byte that no word has, as a word and within one.
func TestP12_1_EachByte(t *testing.T) {
	for n := range 256 {
		b := string([]byte{byte(n)})
		switch {
		case isSmall(byte(n)):
			checks(t, b, []string{b}, api.OK, 0)
			checks(t, "x"+b+"y", []string{"x" + b + "y"}, api.OK, 0)
		case n >= '0' && n <= '9':
			checks(t, b, nil, api.OK, 0)
			checks(t, "1"+b+"2", nil, api.OK, 0)
			checks(t, "-"+b+"2", nil, api.OK, 0)
		case n == ' ':
			checks(t, "1"+b+"2", nil, api.ErrTail, 2)
			checks(t, "not"+b+"2", nil, api.OK, 0)
		case n == '-':
			noWord(t, b)
		default:
			for _, s := range []string{b, b + b, b + "1", "1" + b, "1" + b + "2", b + "a", "a" + b, "a" + b + "b", "-" + b, "-" + b + "1", b + "-1", "not" + b, "an" + b + "d"} {
				noWord(t, s)
				checks(t, s, []string{s, b}, api.ErrForm, 0)
			}
		}
	}
}

func TestP12_1_Names(t *testing.T) {
	checks(t, "a", nil, api.ErrName, 0)
	checks(t, "a", []string{}, api.ErrName, 0)
	checks(t, "a", []string{"b"}, api.ErrName, 0)
	checks(t, "a", []string{"b", "a"}, api.OK, 0)
	checks(t, "a", []string{"a", "a"}, api.OK, 0)
	checks(t, "b", []string{"a", "a"}, api.ErrName, 0)
	checks(t, "b", []string{"a", "a", "b"}, api.OK, 0)
	checks(t, "1", nil, api.OK, 0)
	checks(t, "ab", []string{"a", "b", "abc", "aba", "ba", "ab ", " ab", "ab\x00", "AB"}, api.ErrName, 0)
	checks(t, "add a c", ab(), api.ErrName, 6)
	checks(t, "add c d", ab(), api.ErrName, 4)
	checks(t, "not  c", ab(), api.ErrName, 5)
}

// What is no word is none though it stands among the names, and other words are found among such names.
func TestP12_1_NamesThatAreNone(t *testing.T) {
	none := []string{"", " ", "A", "1", "-1", "12345", "not", "and", "type", "a b", "a1", letters(13), "\x00", "é", "?"}
	for _, s := range []string{"A", "12345", "type", "a1", letters(13), "\x00", "é", "?"} {
		checks(t, s, none, api.ErrForm, 0)
	}
	checks(t, "", none, api.ErrEnd, 0)
	checks(t, " ", none, api.ErrEnd, 1)
	checks(t, "not", none, api.ErrEnd, 3)
	checks(t, "not -1", none, api.OK, 0)
	checks(t, "a b", none, api.ErrName, 0)
	checks(t, "a", none, api.ErrName, 0)
	checks(t, "a", append(none, "a"), api.OK, 0)
}

// The room behind the names is not read.
func TestP12_1_RoomBehindNames(t *testing.T) {
	names := []string{"a", "b", "c"}
	checks(t, "c", names[:2], api.ErrName, 0)
	checks(t, "a", names[:0], api.ErrName, 0)
}
