package schema_test

import (
	"fmt"
	"math/rand"
	"slices"
	"strings"
	"testing"

	"conclave/api"
	"conclave/schema"
)

// reads looks whether Read answers want.
func reads(t *testing.T, s string, want api.Type) {
	t.Helper()
	if got, why, at := schema.Read(s); !same(got, want) || why != api.OK || at != 0 {
		t.Errorf("Read(%.300q): %.300v, %d at %d; not %.300v", s, got, why, at, want)
	}
}

// noType looks whether Read refuses s, with nothing beside.
func noType(t *testing.T, s string, why api.Errno, at int) {
	t.Helper()
	if got, gotWhy, gotAt := schema.Read(s); !same(got, api.Type{}) || gotWhy != why || gotAt != at {
		t.Errorf("Read(%.300q): %.300v, %d at %d; not %d at %d", s, got, gotWhy, gotAt, why, at)
	}
}

// noPart looks whether s is refused as a part, wherever it stands behind the first one.
func noPart(t *testing.T, s string) {
	t.Helper()
	for _, ahead := range []string{"type a;", "  type  a  ;", "type A;", "type a; attr x 1 1 1;", "type a;mark x 1;stage y ?;", "type a; mark x 1; mark x 1; attr z 9 9 8 ;", "type " + letters(20) + ";"} {
		for _, behind := range []string{"", ";", "; mark w 1", ";?", "; type b"} {
			noType(t, ahead+s+behind, api.ErrForm, len(ahead))
			noType(t, ahead+"  "+s+" "+behind, api.ErrForm, len(ahead))
		}
	}
}

func TestP13_2_Runs(t *testing.T) {
	reads(t, "type loan; attr sum 5 0 100; stage pay lt sum 9", api.Type{Name: "loan", Attrs: []api.Attr{{Name: "sum", Start: 5, Lo: 0, Hi: 100}}, Stages: []api.Rule{{Name: "pay", Guard: "lt sum 9"}}})
	noType(t, "type loan; x", api.ErrForm, 10)
}

func TestP13_2_Examples(t *testing.T) {
	reads(t, "type a", api.Type{Name: "a"})
	noType(t, "type a; attr x 1 1 1; stage x 1", api.ErrTaken, 0)
	noType(t, "type a; attr x 1 1 1; stage y z", api.ErrName, 0)
}

func TestP13_2_ReadNoText(t *testing.T) {
	for _, s := range []string{"", " ", "     ", ";", ";;", " ; ", "  ;;", ";type a", " ; type a", ";;type a", "\t", "\n", "\x00"} {
		noType(t, s, api.ErrForm, 0)
	}
	noType(t, strings.Repeat(" ", 1<<16), api.ErrForm, 0)
	noType(t, strings.Repeat(";", 1<<16), api.ErrForm, 0)
}

func TestP13_2_ReadTheFirstPart(t *testing.T) {
	for _, s := range []string{"type a", " type a", "type a ", "   type a   ", "type   a", "  type    a  "} {
		reads(t, s, api.Type{Name: "a"})
		reads(t, s+";mark x 1", api.Type{Name: "a", Marks: rules("x")})
	}
	for _, s := range []string{
		"type", "type ", "  type  ", "type a b", "type  a  b", "type a type", "type type a", "typ a", "types a", "Type a", "TYPE a", "tYPE a", "kind a", "a", "a type", "typea", "type\ta", "type\na", "\ttype a", "type\x00a",
		"attr x 1 1 1", "stage x 1", "mark x 1", "type a 1 1 1", "type ;", "type; a", "?",
	} {
		noType(t, s, api.ErrForm, 0)
		noType(t, "   "+s, api.ErrForm, 0)
		noType(t, s+"  ", api.ErrForm, 0)
		noType(t, s+"; mark x 1", api.ErrForm, 0)
		noType(t, s+";?", api.ErrForm, 0)
		noType(t, s+";type a", api.ErrForm, 0)
	}
}

func TestP13_2_ReadNoPart(t *testing.T) {
	for _, s := range []string{
		"", " ", "     ", "type", "type b", "type b c", "x", "x y", "x y 1", "?", "1", "-", "\t", "\n", "\x00", "\xff", "é",
		"attr", "attr x", "attr x 1", "attr x 1 1", "attr x 1 1 1 1", "attr x 1 1 1 y", "attr x 1 1 1 ?", "attr 1 1 1", "attr x y 1 1 1", "attr x 1 1 1 1 1",
		"stage", "stage x", "stage  x  ", "mark", "mark x", "mark   x", "stage ?", "mark ?", "stage 1", "mark 1",
	} {
		noPart(t, s)
	}
	noType(t, "type a;", api.ErrForm, 7)
	noType(t, "type a;;", api.ErrForm, 7)
	noType(t, "type a;;mark x 1", api.ErrForm, 7)
	noType(t, "type a; mark x 1;", api.ErrForm, 17)
	noType(t, "type a; mark x 1; ", api.ErrForm, 17)
	noType(t, "type a; mark x 1;;", api.ErrForm, 17)
}

func TestP13_2_ReadNoKeyword(t *testing.T) {
	for _, c := range []struct{ key, rest string }{{"attr", " x 1 1 1"}, {"stage", " x 1"}, {"mark", " x 1"}} {
		k := c.key
		for _, s := range []string{k[1:], k[:len(k)-1], k + "s", "x" + k, k + k, strings.ToUpper(k), strings.ToUpper(k[:1]) + k[1:], k[:len(k)-1] + strings.ToUpper(k[len(k)-1:]), k + ",", k + "\t", "\t" + k, k + "\x00", "-" + k} {
			noPart(t, s+c.rest)
		}
		noPart(t, k+"\t"+c.rest[1:])
		noPart(t, k+c.rest[1:])
	}
	for _, s := range []string{"case x 1", "state x 1", "marks x 1", "not x 1", "attribute x 1 1 1", "; x 1", "type x 1", "type x 1 1 1"} {
		noPart(t, s)
	}
}

// numbers: as guards have them.
func numbers() map[string]int {
	return map[string]int{
		"0": 0, "1": 1, "9": 9, "10": 10, "99": 99, "123": 123, "999": 999, "1000": 1000, "00": 0, "01": 1, "007": 7, "0007": 7, "0999": 999, "0000": 0,
		"-0": 0, "-1": -1, "-9": -9, "-10": -10, "-99": -99, "-123": -123, "-999": -999, "-1000": -1000, "-00": 0, "-01": -1, "-007": -7, "-0007": -7, "-0000": 0,
	}
}

func TestP13_2_ReadNumbers(t *testing.T) {
	with := func(start, lo, hi int) api.Type {
		return api.Type{Name: "a", Attrs: []api.Attr{{Name: "x", Start: start, Lo: lo, Hi: hi}}}
	}
	for s, n := range numbers() {
		reads(t, "type a; attr x "+s+" -1000 1000", with(n, -1000, 1000))
		reads(t, "type a; attr x 1000 "+s+" 1000", with(1000, n, 1000))
		reads(t, "type a; attr x -1000 -1000 "+s, with(-1000, -1000, n))
		reads(t, "type a; attr x "+s+"  "+s+"   "+s+"  ", with(n, n, n))
	}
	reads(t, "type a; attr x 2 1 3", with(2, 1, 3))
	for _, s := range []string{"1001", "9999", "-1001", "-9999"} {
		noType(t, "type a; attr x "+s+" -1000 1000", api.ErrRange, 0)
		noType(t, "type a; attr x 0 "+s+" 1000", api.ErrRange, 0)
		noType(t, "type a; attr x 0 -1000 "+s, api.ErrRange, 0)
	}
	noType(t, "type a; attr x 1 2 3", api.ErrRange, 0)
	noType(t, "type a; attr x 3 1 2", api.ErrRange, 0)
}

func TestP13_2_ReadNoNumbers(t *testing.T) {
	for _, s := range []string{
		"12345", "00000", "00001", "01000", "-12345", "-00000", "-", "--", "--1", "---1", "+1", "+", "-+1", "+-1", "1-", "1-1", "1+", "a", "one", "-a", "1a", "a1", "1.0", "1,0", "1e1", "0x1", "1_0", "1\t", "\t1", "1\n", "1\x00", "é", "\xff", "?", "not", "add", "type", "attr",
		strings.Repeat("1", 120), strings.Repeat("0", 121), strings.Repeat("9", 1<<10), "18446744073709551617",
	} {
		noPart(t, "attr x "+s+" 1 1")
		noPart(t, "attr x 1 "+s+" 1")
		noPart(t, "attr x 1 1 "+s)
		noPart(t, "attr x "+s+" "+s+" "+s)
	}
	noPart(t, "attr x - 1 1")
	noPart(t, "attr x 1 - 1 1")
	noPart(t, "attr x 1 not 1 1")
}

// Names may be any words when parts are told apart: it is Right that refuses them, at 0.
func TestP13_2_ReadAnyWordsAsNames(t *testing.T) {
	for _, n := range badNames() {
		if n == "" || strings.ContainsAny(n, " ;") {
			continue
		}
		noType(t, "type "+n, api.ErrName, 0)
		noType(t, "  type  "+n+" ; mark x 1", api.ErrName, 0)
		noType(t, "type a; attr "+n+" 1 1 1", api.ErrName, 0)
		noType(t, "type a; stage "+n+" 1", api.ErrName, 0)
		noType(t, "type a; mark x 1;  mark  "+n+"  1", api.ErrName, 0)
		noType(t, "type "+n+"; x", api.ErrForm, len("type ;"+n))
	}
	for _, n := range goodNames() {
		reads(t, "type "+n, api.Type{Name: n})
		reads(t, "type a; attr "+n+" 0 0 0", api.Type{Name: "a", Attrs: attrs(n)})
		reads(t, "type a; stage "+n+" 1", api.Type{Name: "a", Stages: rules(n)})
		reads(t, "type a; mark "+n+" 1", api.Type{Name: "a", Marks: rules(n)})
	}
}

// What Right refuses is told at 0, whichever part it stands in.
func TestP13_2_ReadWhatIsNotRight(t *testing.T) {
	for _, f := range faults() {
		x := plain()
		f.make(&x)
		if s := schema.Write(x); legible(x) {
			noType(t, s, f.why, 0)
			noType(t, s+";", api.ErrForm, len(s)+1)
		}
	}
}

// legible tells whether Write of x has parts that tell just x: each name is a word, and no guard is empty or has a
// semicolon, or blanks at its ends.
func legible(x api.Type) bool {
	for _, n := range append(schema.Names(x), x.Name) {
		if n == "" || strings.ContainsAny(n, " ;") {
			return false
		}
	}
	for _, r := range append(slices.Clone(x.Stages), x.Marks...) {
		if r.Guard == "" || strings.Contains(r.Guard, ";") || strings.Trim(r.Guard, " ") != r.Guard {
			return false
		}
	}
	return true
}

func TestP13_2_ReadTooMany(t *testing.T) {
	for n := range 4 * api.MaxItems {
		for _, c := range []struct {
			kind, rest string
			x          api.Type
		}{
			{"attr", " 0 0 0", api.Type{Name: "a", Attrs: make([]api.Attr, n)}}, {"stage", " 1", api.Type{Name: "a", Stages: rules(many('x', n)...)}}, {"mark", " 1", api.Type{Name: "a", Marks: rules(many('x', n)...)}},
		} {
			s := "type a"
			for i, name := range many('x', n) {
				s += "; " + c.kind + " " + name + c.rest
				if c.kind == "attr" {
					c.x.Attrs[i].Name = name
				}
			}
			if n > api.MaxItems {
				noType(t, s, api.ErrMany, 0)
				noType(t, strings.Replace(s, "type a", "type A", 1), api.ErrName, 0)
				noType(t, strings.Replace(s, " xb ", " xa ", 1), api.ErrMany, 0)
				noType(t, s+"; mark", api.ErrForm, len(s)+1)
				continue
			}
			reads(t, s, c.x)
		}
	}
	s := strings.Repeat(";mark x ?;attr X 9 9 0;stage x y", 1<<16)
	noType(t, "type a"+s, api.ErrMany, 0)
	noType(t, "type a"+s+";", api.ErrForm, len("type a;"+s))
}

func TestP13_2_ReadTheFirstOfSeveral(t *testing.T) {
	noType(t, "kind a; x; y", api.ErrForm, 0)
	noType(t, "type a; x; y", api.ErrForm, 7)
	noType(t, "type a;mark m 1; x; y", api.ErrForm, 16)
	noType(t, "type A; x", api.ErrForm, 7)
	noType(t, "type a; attr X 1 1 1; ?", api.ErrForm, 21)
	noType(t, "type a; attr x 3 2 1; mark x", api.ErrForm, 21)
	noType(t, "type a; mark m ?; mark m 1; stage", api.ErrForm, 27)
	noType(t, "type a; mark m ?", api.ErrForm, 0)
	noType(t, "type a; mark m 1; mark m ?", api.ErrTaken, 0)
	noType(t, "type a; stage s zz; mark m 1 1", api.ErrName, 0)
	noType(t, "type a; mark m 1 1; stage s zz", api.ErrName, 0)
	noType(t, "type a; mark m 1 1; stage s 1", api.ErrTail, 0)
}

// Where a part begins: behind its semicolon, blanks or not.
func TestP13_2_ReadPlaces(t *testing.T) {
	for _, ahead := range []string{"type a", " type a", "type a   ", "    type    a    ", "type a;mark x 1", "type a ; mark x 1 ; stage y 1 "} {
		for blanks := range 5 {
			gap := strings.Repeat(" ", blanks)
			noType(t, ahead+";"+gap+"x", api.ErrForm, len(ahead)+1)
			noType(t, ahead+";"+gap, api.ErrForm, len(ahead)+1)
			noType(t, gap+ahead+";"+gap+"x"+gap+";mark z 1", api.ErrForm, blanks+len(ahead)+1)
			noType(t, gap+"x;"+ahead, api.ErrForm, 0)
		}
	}
}

func TestP13_2_ReadBlanks(t *testing.T) {
	want := api.Type{Name: "a", Attrs: []api.Attr{{Name: "x", Start: 1, Lo: -1, Hi: 7}}, Stages: []api.Rule{{Name: "s", Guard: "add m x"}}, Marks: []api.Rule{{Name: "m", Guard: "1"}}}
	reads(t, "type a;attr x 1 -1 7;stage s add m x;mark m 1", want)
	reads(t, "type a ;attr x 1 -1 7 ;stage s add m x ;mark m 1 ", want)
	for n := 1; n < 5; n++ {
		gap := strings.Repeat(" ", n)
		reads(t, "type a;"+gap+"attr x 1 -1 7;"+gap+"stage s add m x;"+gap+"mark m 1", want)
		reads(t, "type a"+gap+";attr x 1 -1 7"+gap+";stage s add m x"+gap+";mark m 1"+gap, want)
		reads(t, gap+"type"+gap+"a"+gap+";"+gap+"attr"+gap+"x"+gap+"1"+gap+"-1"+gap+"7"+gap+";"+gap+"stage"+gap+"s"+gap+"add m x"+gap+";"+gap+"mark"+gap+"m"+gap+"1"+gap, want)
		want.Stages[0].Guard = "add" + gap + "m  x"
		reads(t, "type a; attr x 1 -1 7; stage s"+gap+"add"+gap+"m  x"+gap+"; mark m 1", want)
		want.Stages[0].Guard = "add m x"
	}
}

// A blank is 32 alone: another byte is of the word at which it stands.
func TestP13_2_ReadOtherBytes(t *testing.T) {
	for n := range 256 {
		b := string([]byte{byte(n)})
		if b == " " || b == ";" {
			continue
		}
		noPart(t, "attr"+b+" x 1 1 1")
		noPart(t, b+"mark x 1")
		noPart(t, "mark x"+b+"1")
		noPart(t, "stage x"+b)
		noPart(t, "attr x"+b+"1 1 1")
		noPart(t, "attr x 1 1 1 "+b)
		if n < '0' || n > '9' {
			noPart(t, "attr x 1"+b+" 1 1")
			noPart(t, "attr x 1 1 1"+b)
			if b != "-" {
				noPart(t, "attr x 1 "+b+"1 1")
			}
			noType(t, "type a; mark x 1"+b, api.ErrForm, 0)
		}
		if n < 'a' || n > 'z' {
			noType(t, "type a"+b, api.ErrName, 0)
			noType(t, "type a"+b+"b", api.ErrName, 0)
			noType(t, "type a; stage x"+b+" 1", api.ErrName, 0)
			noType(t, "type a; attr "+b+" 1 1 1", api.ErrName, 0)
		}
	}
}

// The order of parts is free among kinds, and that of each kind is kept.
func TestP13_2_ReadKindsInAnyOrder(t *testing.T) {
	parts := strings.Split(schema.Write(loan()), ";")
	r := rand.New(rand.NewSource(13))
	seen := map[string]int{}
	for range 3000 {
		kinds := [][]string{parts[1:3], parts[3:5], parts[5:]}
		all, order := parts[0], ""
		for len(order) < 6 {
			if k := r.Intn(3); len(kinds[k]) > 0 {
				all += ";" + kinds[k][0]
				kinds[k] = kinds[k][1:]
				order += fmt.Sprint(k)
			}
		}
		seen[order]++
		reads(t, all, loan())
	}
	if len(seen) != 90 {
		t.Errorf("%d orders only", len(seen))
	}
	reads(t, "type t; mark f 1; mark e 1; stage d 1; stage c 1; attr b 0 0 0", api.Type{Name: "t", Attrs: attrs("b"), Stages: rules("d", "c"), Marks: rules("f", "e")})
}

// A guard may be any words, also those that parts begin with; which of them it may be, Right says.
func TestP13_2_ReadGuards(t *testing.T) {
	for _, key := range []string{"stage", "mark"} {
		for _, s := range []string{"1", "-1", "x", "not x", "and  x   1", "sub 1  -1", "not not 0"} {
			want := api.Type{Name: "a", Stages: []api.Rule{{Name: "x", Guard: s}}}
			if key == "mark" {
				want.Stages, want.Marks = nil, want.Stages
			}
			for _, gap := range []string{" ", "  ", "      "} {
				reads(t, "type a; "+key+" x"+gap+s, want)
				reads(t, "type a; "+key+gap+"x"+gap+s+gap, want)
			}
		}
		for _, s := range []string{"?", "type", "attr", "mark m 1", "A", "12345", "1\t", "\x00"} {
			noType(t, "type a; "+key+" x "+s, api.ErrForm, 0)
		}
		noType(t, "type a; "+key+" x "+strings.Repeat("1", api.MaxText+1), api.ErrLong, 0)
		noType(t, "type a; "+key+" x y", api.ErrName, 0)
		noType(t, "type a; "+key+" x 1 1", api.ErrTail, 0)
		noType(t, "type a; "+key+" x not", api.ErrEnd, 0)
	}
	long := "add" + strings.Repeat(" ", api.MaxText-6) + "1 1"
	noType(t, "type a; mark x "+long+" 1", api.ErrLong, 0)
	reads(t, "type a; mark x  "+long+strings.Repeat(" ", 300), api.Type{Name: "a", Marks: []api.Rule{{Name: "x", Guard: long}}})
}
