package guard_test

import (
	"strings"
	"testing"

	"conclave/api"
)

// nest is a way to lay operations within one another.
type nest struct{ ahead, behind string } // of each of them

// leftNests: what is within stands ahead of all other parts.
func leftNests() []nest {
	all := []nest{{"not ", ""}}
	for _, op := range ofTwo() {
		all = append(all, nest{op + " ", " 1"})
	}
	return all
}

// rightNests: what is within stands behind all other parts.
func rightNests() []nest {
	var all []nest
	for _, op := range ofTwo() {
		all = append(all, nest{op + " 1 ", ""})
	}
	return all
}

func nests() []nest { return append(leftNests(), rightNests()...) }

// around answers s within deep operations, and where it stands there.
func (n nest) around(s string, deep int) (string, int) {
	ahead := strings.Repeat(n.ahead, deep)
	return ahead + s + strings.Repeat(n.behind, deep), len(ahead)
}

// tooDeep answers s within one operation too many, and where it stands there. It is the first that is too deep: the
// innermost operation is one that has no part ahead of s.
func (n nest) tooDeep(s string) (string, int) {
	all, at := n.around("not "+s, api.MaxDeep)
	return all, at + len("not ")
}

func TestP12_1_JustDeepEnough(t *testing.T) {
	for _, n := range nests() {
		for deep := range api.MaxDeep + 1 {
			for _, w := range []string{"1", "-999", "a", "b"} {
				s, _ := n.around(w, deep)
				right(t, s)
			}
		}
		for _, w := range []string{"not a", "eq a b", "sub 1 2"} {
			s, _ := n.around(w, api.MaxDeep-1)
			right(t, s)
		}
	}
}

func TestP12_1_OneTooDeep(t *testing.T) {
	for _, n := range nests() {
		for _, w := range append(operations(), "1", "-999", "a", "not 1", "or a b", "sub 1 2") {
			s, at := n.tooDeep(w)
			checks(t, s, ab(), api.ErrDeep, at)
			checks(t, s[:at]+w, ab(), api.ErrDeep, at)
			checks(t, s[:at]+" "+w+"  ", ab(), api.ErrDeep, at+1)
		}
	}
	for _, n := range leftNests() {
		for _, w := range append(operations(), "1", "a", "not 1", "add a b") {
			s, at := n.around(w, api.MaxDeep+1)
			checks(t, s, ab(), api.ErrDeep, at)
		}
	}
	for _, n := range rightNests() {
		s, at := n.around("a", api.MaxDeep+1)
		checks(t, s, ab(), api.ErrDeep, at-len("1 "))
	}
}

// An operation that stands just deep enough is right itself: what is missing is told at the end.
func TestP12_1_TheEndIsNotTooDeep(t *testing.T) {
	for _, n := range nests() {
		for _, op := range operations() {
			s, at := n.around(op, api.MaxDeep)
			s = s[:at] + op
			checks(t, s, ab(), api.ErrEnd, len(s))
			checks(t, s+" ", ab(), api.ErrEnd, len(s)+1)
		}
	}
}

// It counts within how many operations a word stands, not how many there are.
func TestP12_1_DeepOnBothSides(t *testing.T) {
	nots, ors := strings.Repeat("not ", 15), strings.Repeat("or ", 16)
	right(t, "or "+nots+"a "+nots[:48]+"b")
	right(t, "or "+nots[:48]+"a "+nots+"b")
	s := "or " + nots[:44] + "a " + nots + "not "
	checks(t, s+"b", ab(), api.ErrDeep, len(s))
	right(t, ors+"1"+strings.Repeat(" 2", 16))
	s = ors + "1 not "
	checks(t, s+"2"+strings.Repeat(" 3", 15), ab(), api.ErrDeep, len(s))
	right(t, ors+"1 2 not 3"+strings.Repeat(" 4", 14))
	s = ors + "1 2 not not "
	checks(t, s+"3"+strings.Repeat(" 4", 14), ab(), api.ErrDeep, len(s))
}

// wholes: guards that are whole.
func wholes() []string {
	return []string{"1", "-1", "a", "not 1", "not not a", "and 1 2", "or a b", "lt 1 a", "eq a 1", "add add 1 2 3", "sub 1 sub 2 3"}
}

func TestP12_1_Tail(t *testing.T) {
	for _, s := range wholes() {
		right(t, s)
		for _, gap := range []string{" ", "  ", "     "} {
			for _, w := range []string{"1", "-9999", "a", "not", "and", "sub", "not 1", "add 1 2", "and 1", "1 2", "a b", "1 ?", "a zz", "b 12345", "not type"} {
				checks(t, s+gap+w, ab(), api.ErrTail, len(s+gap))
				checks(t, " "+s+gap+w+" ", ab(), api.ErrTail, 1+len(s+gap))
			}
		}
	}
	s, _ := nests()[0].around("1", api.MaxDeep)
	checks(t, s+" 2", nil, api.ErrTail, len(s)+1)
	checks(t, "1 "+strings.Repeat("not ", 20)+"1", nil, api.ErrTail, 2)
}

func TestP12_1_End(t *testing.T) {
	for blanks := range 4 {
		behind := strings.Repeat(" ", blanks)
		ends := func(s string) {
			t.Helper()
			checks(t, s+behind, ab(), api.ErrEnd, len(s)+blanks)
		}
		ends("")
		for _, op := range operations() {
			ends(op)
			ends("  " + op)
			ends("not " + op)
			ends("and 1 " + op)
			ends("and " + op)
		}
		for _, op := range ofTwo() {
			for _, s := range wholes() {
				ends(op + " " + s)
				ends(op + "   " + s)
				ends("not " + op + " " + s)
				ends(op + " " + op + " " + s + " " + s)
				ends(op + " " + s + " " + op + " " + s)
			}
		}
	}
}

func TestP12_1_NoText(t *testing.T) {
	for n := range api.MaxText + 1 {
		checks(t, strings.Repeat(" ", n), ab(), api.ErrEnd, n)
		checks(t, strings.Repeat(" ", n), nil, api.ErrEnd, n)
	}
}

func TestP12_1_Blanks(t *testing.T) {
	for _, s := range append(wholes(), "and lt a 5 not b") {
		for n := 1; n < 8; n++ {
			gap := strings.Repeat(" ", n)
			wide := strings.ReplaceAll(s, " ", gap)
			right(t, wide)
			right(t, gap+wide)
			right(t, wide+gap)
			right(t, gap+wide+gap)
			right(t, gap+s+" ")
		}
	}
	checks(t, "and1 2", nil, api.ErrForm, 0)
	checks(t, "and 12", nil, api.ErrEnd, 6)
	checks(t, "nota", ab(), api.ErrName, 0)
}

// Of two refusals that which stands further left is told.
func TestP12_1_FirstFromTheLeft(t *testing.T) {
	deep := strings.Repeat("or ", 17)
	for _, c := range []struct {
		s   string
		why api.Errno
		at  int
	}{
		{"add ? ?", api.ErrForm, 4}, {"add ? zz", api.ErrForm, 4}, {"add ? 1 2", api.ErrForm, 4}, {"add ?", api.ErrForm, 4}, {"or ? " + deep + "1", api.ErrForm, 3},
		{"add zz ?", api.ErrName, 4}, {"add zz zz", api.ErrName, 4}, {"add zz 1 2", api.ErrName, 4}, {"add zz", api.ErrName, 4}, {"or zz " + deep + "1", api.ErrName, 3},
		{deep + "1 ?", api.ErrDeep, 51}, {deep + "1 zz", api.ErrDeep, 51}, {deep + "1 1", api.ErrDeep, 51}, {deep + "1", api.ErrDeep, 51}, {deep + "1" + strings.Repeat(" 1", 18), api.ErrDeep, 51},
		{"? " + deep + "1", api.ErrForm, 0}, {"zz " + deep + "1", api.ErrName, 0}, {"or ? 1 1", api.ErrForm, 3},
		{"1 1 ?", api.ErrTail, 2}, {"1 1 zz", api.ErrTail, 2}, {"1 1 1", api.ErrTail, 2}, {"1 and", api.ErrTail, 2}, {"1 " + deep + "1", api.ErrTail, 2}, {"1 " + deep + "?", api.ErrTail, 2}, {"1 " + deep + "zz", api.ErrTail, 2},
		{"? 1", api.ErrForm, 0}, {"zz 1", api.ErrName, 0}, {"zz ?", api.ErrName, 0}, {"? zz", api.ErrForm, 0},
	} {
		checks(t, c.s, ab(), c.why, c.at)
		checks(t, "  "+c.s, ab(), c.why, c.at+2)
	}
}

// Of several at one word. None is both too deep and behind a whole guard: what stands there is within nothing.
func TestP12_1_OrderAtOneWord(t *testing.T) {
	for _, w := range []string{"?", "12345", "A", "type", letters(13)} {
		checks(t, w, nil, api.ErrForm, 0)
		checks(t, "1 "+w, nil, api.ErrForm, 2)
		for _, n := range nests() {
			s, at := n.tooDeep(w)
			checks(t, s, ab(), api.ErrForm, at)
			checks(t, s, nil, api.ErrForm, at)
		}
	}
	checks(t, "1 zz", ab(), api.ErrName, 2)
	for _, n := range nests() {
		s, at := n.tooDeep("zz")
		checks(t, s, ab(), api.ErrName, at)
		whole, _ := n.around("a", api.MaxDeep)
		checks(t, whole+" b", ab(), api.ErrTail, len(whole)+1)
		checks(t, whole+" zz", ab(), api.ErrName, len(whole)+1)
		checks(t, whole+" ?", ab(), api.ErrForm, len(whole)+1)
	}
}

func TestP12_1_TooLong(t *testing.T) {
	texts := append(wholes(), "", "?", "zz", "and 1", "1 2", "1 ?", "1 zz", "12345", "and", strings.Repeat("not ", 17)+"1")
	for _, s := range texts {
		for _, long := range []int{api.MaxText + 1, api.MaxText + 2, 2*api.MaxText + 1, 256, 512, 1 << 16} {
			checks(t, s+strings.Repeat(" ", long-len(s)), ab(), api.ErrLong, 0)
			checks(t, strings.Repeat(" ", long-len(s))+s, ab(), api.ErrLong, 0)
		}
	}
	for _, s := range wholes() {
		right(t, s+strings.Repeat(" ", api.MaxText-len(s)))
		right(t, strings.Repeat(" ", api.MaxText-len(s))+s)
	}
	blanks := strings.Repeat(" ", api.MaxText-2)
	checks(t, blanks+" ?", ab(), api.ErrForm, api.MaxText-1)
	checks(t, blanks+"zz", ab(), api.ErrName, api.MaxText-2)
	checks(t, blanks+"or", ab(), api.ErrEnd, api.MaxText)
	checks(t, "1"+blanks+"1", ab(), api.ErrTail, api.MaxText-1)
	for _, b := range []string{"a", "1", "-", "?", "\x00", "\n", "\xff"} {
		checks(t, strings.Repeat(b, api.MaxText), ab(), api.ErrForm, 0)
		checks(t, strings.Repeat(b, api.MaxText+1), ab(), api.ErrLong, 0)
	}
}

// A guard that fills the text without one blank too many, and one byte more.
func TestP12_1_FullText(t *testing.T) {
	full := strings.Repeat("or ", 16) + strings.Repeat("-9999 ", 9) + "1000 1 1 1 1 1 1 a"
	if len(full) != api.MaxText {
		t.Fatalf("%q has %d bytes", full, len(full))
	}
	right(t, full)
	checks(t, full+" ", ab(), api.ErrLong, 0)
	checks(t, full+"a", ab(), api.ErrLong, 0)
	checks(t, full[:api.MaxText-1]+"?", ab(), api.ErrForm, api.MaxText-1)
	checks(t, full[:api.MaxText-1]+" ", ab(), api.ErrEnd, api.MaxText)
}
