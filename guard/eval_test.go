package guard_test

import (
	"fmt"
	"math"
	"math/big"
	"strings"
	"testing"

	"conclave/api"
	"conclave/guard"
)

// evals looks whether Eval answers want.
func evals(t *testing.T, s string, names []string, vals []int, want int) {
	t.Helper()
	if n, why := guard.Eval(s, names, vals); n != want || why != api.OK {
		t.Errorf("Eval(%.140q, %.60q, %v): %d, %d; not %d", s, names, vals, n, why, want)
	}
}

// noValue looks whether Eval refuses with why.
func noValue(t *testing.T, s string, names []string, vals []int, want api.Errno) {
	t.Helper()
	if n, why := guard.Eval(s, names, vals); n != 0 || why != want {
		t.Errorf("Eval(%.140q, %.60q, %v): %d, %d; not 0, %d", s, names, vals, n, why, want)
	}
}

// oneIf answers 1 if ok, else 0.
func oneIf(ok bool) int {
	if ok {
		return 1
	}
	return 0
}

// wrapped answers n modulo 2^64, signed.
func wrapped(n *big.Int) int {
	whole := new(big.Int).Lsh(big.NewInt(1), 64)
	n = new(big.Int).Mod(n, whole)
	if n.Bit(63) == 1 {
		n.Sub(n, whole)
	}
	return int(n.Int64())
}

// byWords answers what op makes of a and b, as the chapter says it.
func byWords(op string, a, b int) int {
	x, y := big.NewInt(int64(a)), big.NewInt(int64(b))
	switch op {
	case "not":
		return oneIf(a == 0)
	case "and":
		return oneIf(x.Sign() != 0 && y.Sign() != 0)
	case "or":
		return oneIf(x.Sign() != 0 || y.Sign() != 0)
	case "lt":
		return oneIf(x.Cmp(y) < 0)
	case "eq":
		return oneIf(x.Cmp(y) == 0)
	case "add":
		return wrapped(x.Add(x, y))
	case "sub":
		return wrapped(x.Sub(x, y))
	}
	panic(op)
}

// someInts: both ends, about 2^32, and about 0.
func someInts() []int {
	return []int{
		math.MinInt, math.MinInt + 1, math.MinInt / 2, -(1 << 32) - 1, -(1 << 32), math.MinInt32, -9999, -7, -2, -1, 0,
		1, 2, 3, 10, 9999, math.MaxInt32, 1 << 32, 1<<32 + 1, 1 << 62, math.MaxInt - 1, math.MaxInt,
	}
}

func TestP12_2_Runs(t *testing.T) {
	evals(t, "and lt a 5 not b", []string{"a", "b"}, []int{3, 0}, 1)
	evals(t, "-7", nil, nil, -7)
}

func TestP12_2_EachNumber(t *testing.T) {
	for n := -9999; n <= 9999; n++ {
		evals(t, fmt.Sprint(n), nil, nil, n)
	}
	for s, want := range map[string]int{"-0": 0, "00": 0, "-0000": 0, "007": 7, "-007": -7, "0010": 10, "0100": 100, "-0999": -999} {
		evals(t, s, nil, nil, want)
		evals(t, "  "+s+" ", nil, nil, want)
	}
}

func TestP12_2_Names(t *testing.T) {
	for _, n := range someInts() {
		evals(t, "a", []string{"a"}, []int{n}, n)
		evals(t, "b", []string{"a", "b"}, []int{1, n}, n)
		evals(t, letters(12), []string{"a", letters(12), "b"}, []int{1, n, 2}, n)
		evals(t, "ab", []string{"a", "b", "ab"}, []int{1, 2, n}, n)
	}
	evals(t, "sub a b", []string{"b", "a"}, []int{1, 10}, 9)
}

func TestP12_2_TheFirstOfAName(t *testing.T) {
	names := []string{"b", "a", "b", "a", "a"}
	vals := []int{1, 2, 3, 4, 5}
	evals(t, "a", names, vals, 2)
	evals(t, "b", names, vals, 1)
	evals(t, "add a a", names, vals, 4)
	evals(t, "a", []string{"a", "a"}, []int{0, 9}, 0)
	evals(t, "a", []string{"", "A", "a", "not", "a"}, []int{1, 2, 3, 4, 5}, 3)
}

func TestP12_2_Not(t *testing.T) {
	for _, n := range someInts() {
		evals(t, "not x", []string{"x"}, []int{n}, oneIf(n == 0))
		evals(t, "not not x", []string{"x"}, []int{n}, oneIf(n != 0))
	}
	evals(t, "not 0", nil, nil, 1)
	evals(t, "not -0", nil, nil, 1)
	evals(t, "not 1", nil, nil, 0)
	evals(t, "not -1", nil, nil, 0)
	evals(t, "not 256", nil, nil, 0)
}

// Each operation, at each two numbers: sums and differences beyond both ends are among them.
func TestP12_2_OperationsOfTwo(t *testing.T) {
	names := []string{"x", "y"}
	for _, op := range ofTwo() {
		for _, x := range someInts() {
			for _, y := range someInts() {
				evals(t, op+" x y", names, []int{x, y}, byWords(op, x, y))
				evals(t, op+" y x", names, []int{x, y}, byWords(op, y, x))
			}
			evals(t, op+" x x", names, []int{x, 5}, byWords(op, x, x))
		}
	}
}

func TestP12_2_WrittenNumbers(t *testing.T) {
	for _, op := range ofTwo() {
		for _, x := range []int{-9999, -2, -1, 0, 1, 2, 7, 9999} {
			for _, y := range []int{-9999, -2, -1, 0, 1, 2, 7, 9999} {
				evals(t, fmt.Sprint(op, " ", x, " ", y), nil, nil, byWords(op, x, y))
			}
		}
	}
}

func TestP12_2_BeyondBothEnds(t *testing.T) {
	least, most := []int{math.MinInt}, []int{math.MaxInt}
	x := []string{"x"}
	evals(t, "add x 1", x, most, math.MinInt)
	evals(t, "sub x 1", x, least, math.MaxInt)
	evals(t, "add x -1", x, least, math.MaxInt)
	evals(t, "sub x -1", x, most, math.MinInt)
	evals(t, "add x x", x, most, -2)
	evals(t, "add x x", x, least, 0)
	evals(t, "sub 0 x", x, least, math.MinInt)
	evals(t, "sub 0 x", x, most, -math.MaxInt)
	evals(t, "sub -1 x", x, least, math.MaxInt)
	evals(t, "sub -2 x", x, most, math.MaxInt)
	evals(t, "lt x sub x 1", x, least, 1)
	evals(t, "lt add x 1 x", x, most, 1)
	evals(t, "and add x x 1", x, least, 0)
}

func TestP12_2_WithinOneAnother(t *testing.T) {
	names, vals := []string{"a", "b"}, []int{3, 0}
	for s, want := range map[string]int{
		"sub sub 10 4 1": 5, "sub 10 sub 4 1": 7, "sub sub 10 4 sub 3 1": 4, "sub not b not a": 1, "sub not a not b": -1,
		"add 1 sub 10 lt a 4": 10, "lt lt 5 4 1": 1, "lt 5 lt 4 1": 0, "eq eq 2 2 2": 0, "eq 2 eq 2 2": 0, "eq eq 2 2 1": 1,
		"and or a b not b": 1, "or and a b b": 0, "or b and a -1": 1, "and and 5 6 add 1 -1": 0, "add and 5 6 or 7 0": 2,
		"and lt -5 b eq add a a 6": 1, "not and a a": 0, "not sub a 3": 1, "sub 0 sub 0 sub 0 a": -3, "add add add 1 2 3 4": 10,
	} {
		evals(t, s, names, vals, want)
		evals(t, "  "+strings.ReplaceAll(s, " ", "   ")+"  ", names, vals, want)
	}
	for _, outer := range ofTwo() {
		for _, inner := range ofTwo() {
			evals(t, outer+" "+inner+" 7 2 3", nil, nil, byWords(outer, byWords(inner, 7, 2), 3))
			evals(t, outer+" 7 "+inner+" 2 3", nil, nil, byWords(outer, 7, byWords(inner, 2, 3)))
		}
		evals(t, outer+" not 0 7", nil, nil, byWords(outer, 1, 7))
		evals(t, outer+" 7 not 0", nil, nil, byWords(outer, 7, 1))
		evals(t, "not "+outer+" 7 7", nil, nil, oneIf(byWords(outer, 7, 7) == 0))
	}
}

func TestP12_2_AsDeepAsMayBe(t *testing.T) {
	evals(t, strings.Repeat("not ", 16)+"5", nil, nil, 1)
	evals(t, strings.Repeat("not ", 15)+"5", nil, nil, 0)
	evals(t, strings.Repeat("sub 1 ", 16)+"5", nil, nil, 5)
	evals(t, strings.Repeat("sub ", 16)+"100"+strings.Repeat(" 2", 16), nil, nil, 68)
	evals(t, strings.Repeat("or ", 16)+strings.Repeat("-9999 ", 9)+"1000 1 1 1 1 1 1 1", nil, nil, 1)
}

// and, or, not of numbers other than 0 and 1 answer one of these two, as lt and eq do.
func TestP12_2_AnswersAreOneOrZero(t *testing.T) {
	for _, op := range []string{"and", "or", "lt", "eq", "not"} {
		for _, x := range someInts() {
			for _, y := range someInts() {
				s := op + " x y"
				if op == "not" {
					s = "not x"
				}
				if n, why := guard.Eval(s, []string{"x", "y"}, []int{x, y}); n != 0 && n != 1 || why != api.OK {
					t.Errorf("%s of %d, %d: %d, %d", op, x, y, n, why)
				}
			}
		}
	}
}

func TestP12_2_HowManyVals(t *testing.T) {
	names := []string{"a", "b", "c"}
	for _, s := range []string{"1", "a", "add a b", "not c"} {
		for n := range len(names) {
			noValue(t, s, names, []int{7, 7, 7}[:n], api.ErrArg)
			noValue(t, s, names, make([]int, n), api.ErrArg)
		}
		noValue(t, s, names, nil, api.ErrArg)
	}
	evals(t, "1", names, []int{7, 8, 9}, 1)
	evals(t, "c", names, []int{7, 8, 9}, 9)
	evals(t, "c", names, []int{7, 8, 9, 10}, 9)
	evals(t, "c", names, []int{7, 8, 9, 10, 11, 12, 13, 14}, 9)
	evals(t, "1", nil, nil, 1)
	evals(t, "1", []string{}, []int{}, 1)
	evals(t, "1", nil, []int{5}, 1)
	noValue(t, "a", []string{"a", "a"}, []int{5}, api.ErrArg)
	noValue(t, "1", []string{"", "", "A"}, []int{5, 5}, api.ErrArg)
}

func TestP12_2_WhatCheckAnswersComesFirst(t *testing.T) {
	for _, s := range refused() {
		for _, names := range [][]string{nil, {"a"}, {"a", "b"}, {"a", "b", "a"}} {
			why, _ := guard.Check(s, names)
			if why == api.OK {
				t.Fatalf("%q is right", s)
			}
			for n := range 5 {
				noValue(t, s, names, make([]int, n), why)
			}
			noValue(t, s, names, nil, why)
		}
	}
	noValue(t, "?", []string{"a"}, nil, api.ErrForm)
	noValue(t, "zz", []string{"a"}, nil, api.ErrName)
	noValue(t, strings.Repeat("not ", 17)+"1", []string{"a"}, nil, api.ErrDeep)
	noValue(t, "1 1", []string{"a"}, nil, api.ErrTail)
	noValue(t, "and 1", []string{"a"}, nil, api.ErrEnd)
	noValue(t, strings.Repeat(" ", 120)+"1", []string{"a"}, nil, api.ErrLong)
}

// refused: texts that are no guards, for each refusal some.
func refused() []string {
	return []string{
		"", "  ", "not", "and 1", "or 1  ", "sub", "?", "12345", "-", "type", "A", "1 ?", "zz", "add 1 zz", "1 zz", "1 2",
		"not 1 2", "1 and", strings.Repeat("not ", 17) + "1", strings.Repeat("or ", 17) + "1", strings.Repeat("1", 121), strings.Repeat(" ", 120) + "1",
	}
}
