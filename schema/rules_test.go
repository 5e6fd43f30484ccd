package schema_test

import (
	"math"
	"math/rand"
	"slices"
	"strings"
	"testing"
	"unsafe"

	"conclave/api"
	"conclave/schema"
)

// oddTexts: texts of all kinds, long ones and such as are no texts among them.
func oddTexts() []string {
	all := append(badNames(), goodNames()...)
	for _, s := range []string{"", "type a", "type a;", "attr x 1 1 1", "stage x 1", "mark x not x"} {
		all = append(all, s, s+";", " "+s+" ", s+"\x00", "type a;"+s)
	}
	for _, b := range []string{"a", "1", " ", "-", ";", "; ", "?", "\x00", "\n", "\t", "\xff", "é", "type ", "type a;", "attr ", "not ", ";mark x 1", ";attr x 1 1 1"} {
		for _, n := range []int{1, 2, 3, 6, 7, 13, 120, 121, 1 << 12, 1 << 16} {
			all = append(all, strings.Repeat(b, n))
		}
	}
	return all
}

// oddTypes: types of all kinds, with very long lists among them.
func oddTypes() []api.Type {
	all := []api.Type{{}, {Name: "a"}, loan(), plain()}
	for _, n := range []int{0, 1, 6, 7, 1 << 12} {
		all = append(all, api.Type{Name: "a", Attrs: make([]api.Attr, n)}, api.Type{Stages: make([]api.Rule, n)}, api.Type{Name: "b", Marks: make([]api.Rule, n)})
		all = append(all, api.Type{Name: "c", Attrs: make([]api.Attr, n), Stages: make([]api.Rule, n), Marks: make([]api.Rule, n)})
	}
	for _, s := range oddTexts() {
		all = append(all, api.Type{Name: s, Attrs: attrs(s), Stages: rules(s), Marks: []api.Rule{{Name: s, Guard: s}}})
		all = append(all, api.Type{Name: "a", Stages: []api.Rule{{Name: "x", Guard: s}}, Marks: []api.Rule{{Name: "y", Guard: s}}})
	}
	for _, n := range []int{math.MinInt, math.MaxInt} {
		all = append(all, api.Type{Name: "a", Attrs: []api.Attr{{Name: "x", Start: n, Lo: n, Hi: n}, {Name: "y", Start: -n, Lo: n, Hi: -n}}})
	}
	for _, f := range faults() {
		x := plain()
		f.make(&x)
		all = append(all, x)
	}
	return all
}

func TestR1_AnyType(t *testing.T) {
	for _, x := range oddTypes() {
		judged(t, x, modelRight(x))
		writes(t, x, modelWrite(x))
		if got, want := len(schema.Names(x)), len(x.Attrs)+len(x.Stages)+len(x.Marks); got != want {
			t.Errorf("Names(%.300v): %d names; not %d", x, got, want)
		}
	}
}

func TestR1_AnyText(t *testing.T) {
	for _, s := range oddTexts() {
		agrees(t, s)
		agrees(t, "type a; mark x 1; "+s)
	}
}

func TestR1_AnyBytes(t *testing.T) {
	r := rand.New(rand.NewSource(133))
	for range 20000 {
		b := make([]byte, r.Intn(60))
		for i := range b {
			b[i] = byte(r.Intn(256))
		}
		agrees(t, string(b))
		agrees(t, "type a;"+string(b))
		agrees(t, "type a;stage x "+string(b))
	}
}

func TestR1_LongTexts(t *testing.T) {
	const long = 1 << 22
	blanks, as := strings.Repeat(" ", long), strings.Repeat("a", long)
	reads(t, blanks+"type"+blanks+"a"+blanks+";"+blanks+"mark"+blanks+"x"+blanks+"1"+blanks, api.Type{Name: "a", Marks: rules("x")})
	noType(t, "type "+as, api.ErrName, 0)
	noType(t, as, api.ErrForm, 0)
	noType(t, "type a;"+as, api.ErrForm, 7)
	noType(t, "type a;mark x "+as, api.ErrLong, 0)
	noType(t, "type a;mark x 1"+blanks+"1", api.ErrLong, 0)
	noType(t, "type a;attr x 1 1 "+as, api.ErrForm, 7)
	noType(t, "type a;attr "+as+" 1 1 1", api.ErrName, 0)
	noType(t, "type a"+strings.Repeat(";mark x 1", long/8), api.ErrMany, 0)
	noType(t, "type a"+strings.Repeat(";", long), api.ErrForm, 7)
}

// roomy answers x with lists that have room behind their lengths, in which there is something.
func roomy(x api.Type) api.Type {
	x.Attrs = append(slices.Clone(x.Attrs), api.Attr{Name: "behind", Start: 1, Lo: 2, Hi: 3}, api.Attr{Name: "a"})[:len(x.Attrs)]
	x.Stages = append(slices.Clone(x.Stages), api.Rule{Name: "behind", Guard: "?"}, api.Rule{Name: "c"})[:len(x.Stages)]
	x.Marks = append(slices.Clone(x.Marks), api.Rule{Name: "behind", Guard: "?"}, api.Rule{Name: "e"})[:len(x.Marks)]
	return x
}

// whole answers x with all the room behind its lists.
func whole(x api.Type) api.Type {
	x.Attrs, x.Stages, x.Marks = x.Attrs[:cap(x.Attrs)], x.Stages[:cap(x.Stages)], x.Marks[:cap(x.Marks)]
	return x
}

func TestR2_WhatIsHandedInStays(t *testing.T) {
	for _, x := range oddTypes() {
		in := roomy(x)
		was := whole(in)
		was.Attrs, was.Stages, was.Marks = slices.Clone(was.Attrs), slices.Clone(was.Stages), slices.Clone(was.Marks)
		schema.Right(in)
		schema.Write(in)
		for range 3 {
			spoil(schema.Names(in))
		}
		if !same(whole(in), was) {
			t.Fatalf("%.300v became %.300v", was, whole(in))
		}
	}
}

// spoil writes all over a list and the room behind it.
func spoil[T any](list []T) {
	var zero T
	for i := range list[:cap(list)] {
		list[:cap(list)][i] = zero
	}
}

func TestR2_WhatIsHandedInIsNotKept(t *testing.T) {
	x := loan()
	s, all := schema.Write(x), schema.Names(x)
	judged(t, x, api.OK)
	x.Attrs[0], x.Stages[0].Name, x.Marks[1].Name = api.Attr{Name: "x", Start: 9, Lo: 9, Hi: 8}, "y", "z"
	if !slices.Equal(all, []string{"sum", "paid", "pay", "close", "late", "done"}) {
		t.Errorf("Names answered %q, which went along with the type", all)
	}
	judged(t, x, api.ErrRange)
	names(t, x, "x", "paid", "y", "close", "late", "z")
	reads(t, s, loan())
}

func TestR2_NamesAreNewMemory(t *testing.T) {
	for _, x := range []api.Type{loan(), plain(), {Name: "a", Attrs: attrs("x")}, {Name: "a", Marks: rules("x", "y", "z")}} {
		first, second := schema.Names(x), schema.Names(x)
		want := slices.Clone(first)
		spoil(first)
		if !slices.Equal(second, want) {
			t.Errorf("Names of %v shares memory with an earlier answer: %q", x, second)
		}
		names(t, x, want...)
		judged(t, x, api.OK)
	}
}

func TestR2_ReadIsNewMemory(t *testing.T) {
	for n := range api.MaxItems + 1 {
		want := api.Type{Name: "a", Attrs: attrs(many('x', n)...), Stages: rules(many('y', n)...), Marks: rules(many('z', n)...)}
		s := schema.Write(want)
		for k := range 3 {
			first, _, _ := schema.Read(s)
			second, _, _ := schema.Read(s)
			left := want
			switch k { // each list in its turn: the two others stay
			case 0:
				spoil(first.Attrs)
				left.Attrs = make([]api.Attr, n)
			case 1:
				spoil(first.Stages)
				left.Stages = make([]api.Rule, n)
			default:
				spoil(first.Marks)
				left.Marks = make([]api.Rule, n)
			}
			if !same(first, left) {
				t.Errorf("two lists of one type share memory: %v", first)
			}
			if !same(second, want) {
				t.Errorf("Read shares memory with an earlier answer: %v", second)
			}
			reads(t, s, want)
		}
	}
}

// within tells whether the bytes of part lie in those of s.
func within(part, s string) bool {
	at, from := uintptr(unsafe.Pointer(unsafe.StringData(part))), uintptr(unsafe.Pointer(unsafe.StringData(s)))
	return at >= from && at < from+uintptr(len(s))
}

// A type that was read does not keep the text, which may be long.
func TestR2_ReadKeepsNoText(t *testing.T) {
	s := schema.Write(loan()) + strings.Repeat(" ", 1000)
	x, why, _ := schema.Read(s)
	if why != api.OK {
		t.Fatal(why)
	}
	texts := append(schema.Names(x), x.Name)
	for _, r := range append(slices.Clone(x.Stages), x.Marks...) {
		texts = append(texts, r.Guard)
	}
	for _, one := range texts {
		if within(one, s) {
			t.Errorf("%q is a part of what was read", one)
		}
	}
}

// None of the room behind the lists is an item.
func TestR5_RoomBehind(t *testing.T) {
	for _, x := range oddTypes() {
		in := roomy(x)
		judged(t, in, schema.Right(x))
		writes(t, in, schema.Write(x))
		names(t, in, schema.Names(x)...)
	}
	full := api.Type{Name: "a", Attrs: attrs(many('x', 6)...), Stages: rules(many('y', 6)...), Marks: rules(many('z', 6)...)}
	judged(t, roomy(full), api.OK)
}

// nil and empty lists mean the same.
func TestR4_NoneAndEmpty(t *testing.T) {
	none, empty := api.Type{Name: "a"}, api.Type{Name: "a", Attrs: []api.Attr{}, Stages: []api.Rule{}, Marks: []api.Rule{}}
	judged(t, none, api.OK)
	judged(t, empty, api.OK)
	writes(t, empty, schema.Write(none))
	names(t, empty)
	reads(t, "type a", empty)
	noType(t, "type A", api.ErrName, 0)
}
