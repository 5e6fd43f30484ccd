package span_test

import (
	"math"
	"testing"

	"conclave/api"
	"conclave/span"
)

const far = api.MaxTime

var of = span.Of

// right answers spans of many kinds, all of them right: points, touching ones, those at the ends of time.
func right() []complex128 {
	return []complex128{
		of(0, 0), of(2, 2), of(-5, -5), of(1, 3), of(3, 5), of(4, 5), of(0, 10), of(-7, 9), of(-3, -1),
		of(-far, far), of(-far, -far), of(far, far), of(-far, 0), of(0, far), of(far-1, far), of(-far, 1-far),
	}
}

// wrong answers numbers that are no right spans.
func wrong() []complex128 {
	nan, inf := math.NaN(), math.Inf(1)
	return []complex128{
		of(3, 1), of(1, 0), of(0, -1), of(far, -far), of(far, far-1), // the first is greater
		complex(0.5, 1), complex(0, 1.5), complex(0.5, 0.5), complex(-0.5, 0), complex(-1.5, 1.5), // not whole
		complex(0, math.SmallestNonzeroFloat64), complex(-math.SmallestNonzeroFloat64, 0),
		complex(math.Nextafter(1, 0), 1), complex(1, math.Nextafter(1, 2)), complex(far-0.5, far), complex(-far, 0.5-far),
		complex(nan, 1), complex(0, nan), complex(nan, nan), // no number
		complex(-inf, 0), complex(0, inf), complex(-inf, inf), complex(inf, inf), complex(-inf, -inf), complex(inf, 0), // without end
		complex(nan, inf), complex(-inf, nan),
		of(-far-1, 0), of(0, far+1), of(-far-1, far+1), of(-far-1, -far-1), of(far+1, far+1), // beyond MaxTime
		complex(math.Nextafter(-far, -2*far), 0), complex(0, math.Nextafter(far, 2*far)),
		of(-far-5, 5-far), of(far-5, far+5), of(-2*far, 2*far),
		of(math.MinInt, math.MaxInt), of(math.MaxInt, math.MaxInt), of(math.MinInt, math.MinInt), of(0, 1<<53+1),
		complex(-math.MaxFloat64, math.MaxFloat64),
	}
}

// answer is what Add, Sub, Meet and Drift answer.
type answer struct {
	c  complex128
	ok bool
}

func got(c complex128, ok bool) answer { return answer{c, ok} }

func is(lo, hi int) answer { return answer{of(lo, hi), true} }

func none() answer { return answer{} }

func TestP3_1_Of(t *testing.T) {
	for _, c := range []struct {
		lo, hi int
		want   complex128
	}{
		{0, 0, 0},
		{1, 3, 1 + 3i},
		{3, 1, 3 + 1i},
		{-7, -2, -7 - 2i},
		{0, 5, 5i},
		{5, 0, 5},
		{-far, far, complex(-(1 << 40), 1<<40)},
		{-far - 1, far + 1, complex(-(1<<40)-1, 1<<40+1)},
		{1 << 53, -1 << 53, complex(1<<53, -(1 << 53))},
		{math.MinInt, 0, complex(-(1 << 63), 0)},
	} {
		if got := span.Of(c.lo, c.hi); got != c.want {
			t.Errorf("Of(%d, %d): %v, not %v", c.lo, c.hi, got, c.want)
		}
	}
}

func TestP3_1_RightAndParts(t *testing.T) {
	for _, c := range right() {
		if !span.Right(c) {
			t.Errorf("Right(%v): false", c)
		}
		lo, hi, ok := span.Parts(c)
		if !ok || float64(lo) != real(c) || float64(hi) != imag(c) {
			t.Errorf("Parts(%v): %d, %d, %v", c, lo, hi, ok)
		}
	}
	for _, c := range wrong() {
		if span.Right(c) {
			t.Errorf("Right(%v): true", c)
		}
		if lo, hi, ok := span.Parts(c); ok || lo != 0 || hi != 0 {
			t.Errorf("Parts(%v): %d, %d, %v", c, lo, hi, ok)
		}
	}
}

func TestP3_1_PartsOfOf(t *testing.T) {
	edge := []int{-far - 2, -far - 1, -far, -far + 1, -2, -1, 0, 1, 2, far - 1, far, far + 1, far + 2}
	for _, lo := range edge {
		for _, hi := range edge {
			want := -far <= lo && lo <= hi && hi <= far
			if span.Right(of(lo, hi)) != want {
				t.Errorf("Right of %d..%d: %v", lo, hi, !want)
			}
			gotLo, gotHi, ok := span.Parts(of(lo, hi))
			if ok != want || ok && (gotLo != lo || gotHi != hi) || !ok && (gotLo != 0 || gotHi != 0) {
				t.Errorf("Parts of %d..%d: %d, %d, %v", lo, hi, gotLo, gotHi, ok)
			}
		}
	}
}

func TestP3_1_Add(t *testing.T) {
	for _, c := range []struct {
		a, b complex128
		want answer
	}{
		{of(1, 3), of(10, 20), is(11, 23)},
		{of(10, 20), of(1, 3), is(11, 23)},
		{of(0, 0), of(0, 0), is(0, 0)},
		{of(2, 2), of(5, 5), is(7, 7)},
		{of(-3, -1), of(1, 3), is(-2, 2)},
		{of(-7, 9), of(4, 5), is(-3, 14)},
		{of(1, far), of(0, 0), is(1, far)},
		{of(1, far-1), of(0, 1), is(1, far)},
		{of(1, far-1), of(0, 2), none()},
		{of(far, far), of(0, 1), none()},
		{of(far, far), of(1, 1), none()},
		{of(far, far), of(-1, 0), is(far-1, far)},
		{of(far, far), of(-far, -far), is(0, 0)},
		{of(far, far), of(-far, 0), is(0, far)},
		{of(-far, 5), of(0, 0), is(-far, 5)},
		{of(1-far, 5), of(-1, 0), is(-far, 5)},
		{of(1-far, 5), of(-2, 0), none()},
		{of(-far, -far), of(-1, 0), none()},
		{of(-far, -far), of(-1, -1), none()},
		{of(-far, far), of(0, 0), is(-far, far)},
		{of(-far, far), of(1, 1), none()},
		{of(-far, far), of(-1, -1), none()},
		{of(-far, far), of(-far, far), none()},
		{of(far, far), of(far, far), none()},
	} {
		if got := got(span.Add(c.a, c.b)); got != c.want {
			t.Errorf("Add(%v, %v): %v, not %v", c.a, c.b, got, c.want)
		}
	}
}

func TestP3_1_Sub(t *testing.T) {
	for _, c := range []struct {
		a, b complex128
		want answer
	}{
		{of(10, 20), of(1, 3), is(7, 19)},
		{of(1, 3), of(10, 20), is(-19, -7)},
		{of(0, 0), of(0, 0), is(0, 0)},
		{of(7, 7), of(5, 5), is(2, 2)},
		{of(5, 7), of(5, 7), is(-2, 2)},
		{of(-3, -1), of(1, 3), is(-6, -2)},
		{of(0, far), of(0, 0), is(0, far)},
		{of(0, far-1), of(-1, 0), is(0, far)},
		{of(0, far-1), of(-2, 0), none()},
		{of(0, far), of(-1, 0), none()},
		{of(far, far), of(-1, -1), none()},
		{of(far, far), of(0, 1), is(far-1, far)},
		{of(far, far), of(far, far), is(0, 0)},
		{of(-far, 0), of(0, 0), is(-far, 0)},
		{of(1-far, 0), of(0, 1), is(-far, 0)},
		{of(1-far, 0), of(0, 2), none()},
		{of(-far, 0), of(0, 1), none()},
		{of(-far, -far), of(1, 1), none()},
		{of(-far, -far), of(-far, -far), is(0, 0)},
		{of(0, 0), of(-far, far), is(-far, far)},
		{of(1, 1), of(-far, far), none()},
		{of(-1, -1), of(-far, far), none()},
		{of(-far, far), of(-far, far), none()},
		{of(-far, -far), of(far, far), none()},
	} {
		if got := got(span.Sub(c.a, c.b)); got != c.want {
			t.Errorf("Sub(%v, %v): %v, not %v", c.a, c.b, got, c.want)
		}
	}
}

func TestP3_1_Before(t *testing.T) {
	for _, c := range []struct {
		a, b complex128
		want bool
	}{
		{of(1, 3), of(4, 5), true},
		{of(1, 3), of(3, 5), false}, // they touch at one point
		{of(4, 5), of(1, 3), false},
		{of(1, 4), of(2, 3), false},
		{of(2, 3), of(1, 4), false},
		{of(1, 3), of(2, 5), false},
		{of(2, 2), of(3, 3), true},
		{of(2, 2), of(2, 2), false},
		{of(3, 3), of(2, 2), false},
		{of(-5, -5), of(-4, 0), true},
		{of(-far, -far), of(1-far, 0), true},
		{of(0, far-1), of(far, far), true},
		{of(0, far), of(far, far), false},
	} {
		if got := span.Before(c.a, c.b); got != c.want {
			t.Errorf("Before(%v, %v): %v", c.a, c.b, got)
		}
	}
}

func TestP3_1_Meet(t *testing.T) {
	for _, c := range []struct {
		a, b complex128
		want answer
	}{
		{of(1, 3), of(4, 5), none()},
		{of(1, 3), of(3, 5), is(3, 3)},
		{of(1, 3), of(2, 5), is(2, 3)},
		{of(1, 9), of(2, 3), is(2, 3)},
		{of(1, 3), of(1, 3), is(1, 3)},
		{of(1, 3), of(1, 2), is(1, 2)},
		{of(1, 3), of(2, 3), is(2, 3)},
		{of(2, 2), of(2, 2), is(2, 2)},
		{of(2, 2), of(3, 3), none()},
		{of(2, 2), of(1, 3), is(2, 2)},
		{of(-5, 0), of(0, 5), is(0, 0)},
		{of(-5, -1), of(1, 5), none()},
		{of(-far, far), of(-3, 7), is(-3, 7)},
		{of(-far, 0), of(-far, -far), is(-far, -far)},
		{of(0, far), of(far, far), is(far, far)},
		{of(0, far-1), of(far, far), none()},
	} {
		for range 2 { // who is first does not matter
			if got := got(span.Meet(c.a, c.b)); got != c.want {
				t.Errorf("Meet(%v, %v): %v, not %v", c.a, c.b, got, c.want)
			}
			c.a, c.b = c.b, c.a
		}
	}
}

func TestP3_1_Hull(t *testing.T) {
	for _, c := range []struct{ a, b, want complex128 }{
		{of(1, 3), of(7, 9), of(1, 9)},
		{of(1, 3), of(3, 5), of(1, 5)},
		{of(1, 9), of(2, 3), of(1, 9)},
		{of(1, 5), of(2, 9), of(1, 9)},
		{of(1, 3), of(1, 3), of(1, 3)},
		{of(2, 2), of(2, 2), of(2, 2)},
		{of(2, 2), of(7, 7), of(2, 7)},
		{of(-3, -1), of(-9, -7), of(-9, -1)},
		{of(5, 5), of(0, 0), of(0, 5)},
		{of(-far, -far), of(far, far), of(-far, far)},
		{of(-far, far), of(2, 2), of(-far, far)},
	} {
		for range 2 { // who is first does not matter
			if got := span.Hull(c.a, c.b); got != c.want {
				t.Errorf("Hull(%v, %v): %v, not %v", c.a, c.b, got, c.want)
			}
			c.a, c.b = c.b, c.a
		}
	}
}

func TestP3_1_Within(t *testing.T) {
	for _, c := range []struct {
		a, b complex128
		want bool
	}{
		{of(2, 3), of(1, 4), true},
		{of(1, 4), of(1, 4), true},
		{of(1, 3), of(1, 4), true},
		{of(2, 4), of(1, 4), true},
		{of(1, 4), of(2, 3), false},
		{of(0, 4), of(1, 4), false},
		{of(1, 5), of(1, 4), false},
		{of(1, 3), of(4, 5), false},
		{of(4, 5), of(1, 3), false},
		{of(1, 3), of(3, 5), false},
		{of(3, 3), of(3, 5), true},
		{of(3, 3), of(1, 3), true},
		{of(4, 4), of(1, 3), false},
		{of(2, 2), of(2, 2), true},
		{of(2, 2), of(3, 3), false},
		{of(-far, far), of(-far, far), true},
		{of(-far, far), of(1-far, far), false},
		{of(-far, far), of(-far, far-1), false},
	} {
		if got := span.Within(c.a, c.b); got != c.want {
			t.Errorf("Within(%v, %v): %v", c.a, c.b, got)
		}
	}
}

// refused looks whether every call of two spans refuses a and b.
func refused(t *testing.T, a, b complex128) {
	t.Helper()
	if got := got(span.Add(a, b)); got != none() {
		t.Errorf("Add(%v, %v): %v", a, b, got)
	}
	if got := got(span.Sub(a, b)); got != none() {
		t.Errorf("Sub(%v, %v): %v", a, b, got)
	}
	if got := got(span.Meet(a, b)); got != none() {
		t.Errorf("Meet(%v, %v): %v", a, b, got)
	}
	if got := span.Hull(a, b); got != 0 {
		t.Errorf("Hull(%v, %v): %v", a, b, got)
	}
	if span.Before(a, b) {
		t.Errorf("Before(%v, %v): true", a, b)
	}
	if span.Within(a, b) {
		t.Errorf("Within(%v, %v): true", a, b)
	}
}

func TestP3_1_WrongOnes(t *testing.T) {
	for _, w := range wrong() {
		for _, c := range right() {
			refused(t, w, c)
			refused(t, c, w)
		}
		for _, c := range wrong() {
			refused(t, w, c)
		}
	}
}

// Every two of the spans from -3 to 3, held against the points that they have.
func TestP3_1_PointByPoint(t *testing.T) {
	each(3, func(a, b, c, d int) {
		x, y := of(a, b), of(c, d)
		before, within, inBoth := true, true, none()
		for p := a; p <= b; p++ {
			for q := c; q <= d; q++ {
				before = before && p < q
			}
			if p < c || p > d {
				within = false
			} else if !inBoth.ok {
				inBoth = is(p, p)
			} else {
				inBoth = is(int(real(inBoth.c)), p)
			}
		}
		if span.Before(x, y) != before {
			t.Errorf("Before(%v, %v): %v", x, y, !before)
		}
		if span.Within(x, y) != within {
			t.Errorf("Within(%v, %v): %v", x, y, !within)
		}
		if got := got(span.Meet(x, y)); got != inBoth {
			t.Errorf("Meet(%v, %v): %v, not %v", x, y, got, inBoth)
		}
		leastHull(t, x, y)
	})
}

// leastHull looks whether Hull has both, and whether no smaller one has.
func leastHull(t *testing.T, x, y complex128) {
	t.Helper()
	hull := span.Hull(x, y)
	if !span.Within(x, hull) || !span.Within(y, hull) {
		t.Errorf("Hull(%v, %v): %v has not both", x, y, hull)
	}
	for _, less := range []complex128{hull + 1, hull - 1i} {
		if span.Within(x, less) && span.Within(y, less) {
			t.Errorf("Hull(%v, %v): %v is not the least", x, y, hull)
		}
	}
}

// each hands over every two spans a..b and c..d from -n to n.
func each(n int, do func(a, b, c, d int)) {
	for a := -n; a <= n; a++ {
		for b := a; b <= n; b++ {
			for c := -n; c <= n; c++ {
				for d := c; d <= n; d++ {
					do(a, b, c, d)
				}
			}
		}
	}
}

// A zero below zero is a whole number like any zero, and no answer shows it.
func TestP3_1_ZeroBelowZero(t *testing.T) {
	low := math.Copysign(0, -1)
	zero := complex(low, low)
	if lo, hi, ok := span.Parts(zero); !span.Right(zero) || !ok || lo != 0 || hi != 0 {
		t.Errorf("Parts of zero: %d, %d, %v", lo, hi, ok)
	}
	if span.Before(zero, 0) || span.Before(0, zero) || !span.Within(zero, 0) || !span.Within(0, zero) {
		t.Error("zero is not zero")
	}
	for _, other := range []complex128{0, zero, complex(low, 0), complex(0, low)} {
		sum, _ := span.Add(zero, other)
		less, _ := span.Sub(zero, other)
		meet, _ := span.Meet(zero, other)
		for i, c := range []complex128{sum, less, meet, span.Hull(zero, other)} {
			if math.Float64bits(real(c)) != 0 || math.Float64bits(imag(c)) != 0 {
				t.Errorf("answer %d of zero and %v: %v", i, other, c)
			}
		}
	}
}

func TestP3_2_Drift(t *testing.T) {
	for _, c := range []struct {
		dt, rho int
		want    answer
	}{
		{100, 100, is(90, 112)},
		{0, 5, is(0, 0)},
		{0, 0, is(0, 0)},
		{0, 500, is(0, 0)},
		{7, 0, is(7, 7)},
		{1, 1, is(0, 2)},
		{1, 500, is(0, 2)},
		{2, 500, is(1, 4)},
		{3, 500, is(2, 6)}, // both are whole without rounding
		{9, 100, is(8, 10)},
		{11, 100, is(10, 13)},
		{99, 100, is(90, 110)}, // both are whole without rounding
		{1000, 1, is(999, 1002)},
		{1001, 1, is(1000, 1003)},
		{999, 1, is(998, 1000)},
		{1 << 30, 0, is(1<<30, 1<<30)},
		{1 << 30, 1, is(1072669154, 1074816641)},
		{1 << 30, 499, is(716305419, 2143197254)},
		{1 << 30, 500, is(715827882, 1<<31)},
		{1<<30 - 1, 500, is(715827882, 1<<31-2)},
	} {
		if got := got(span.Drift(c.dt, c.rho)); got != c.want {
			t.Errorf("Drift(%d, %d): %v, not %v", c.dt, c.rho, got, c.want)
		}
	}
}

func TestP3_2_DriftRefuses(t *testing.T) {
	for _, c := range []struct{ dt, rho int }{
		{-1, 0}, {-1, 5}, {-1, 500}, {1<<30 + 1, 0}, {1<<30 + 1, 5}, {1<<30 + 1, 500},
		{0, -1}, {5, -1}, {1 << 30, -1}, {0, 501}, {5, 501}, {1 << 30, 501},
		{5, 999}, {5, 1000}, {5, 1001}, {5, -1000}, {5, -1001}, {0, 1000}, {-1, -1}, {-5, 1000},
		{math.MaxInt, 5}, {math.MinInt, 5}, {5, math.MaxInt}, {5, math.MinInt}, {math.MinInt, math.MinInt},
	} {
		if got := got(span.Drift(c.dt, c.rho)); got != none() {
			t.Errorf("Drift(%d, %d): %v", c.dt, c.rho, got)
		}
	}
}

// At every rho: the earliest is the greatest number no greater than its quotient, the latest the least no less.
func TestP3_2_DriftRoundings(t *testing.T) {
	shown := []int{999, 1000, 1001, 123456789, 1 << 29, 1<<30 - 1, 1 << 30}
	for dt := range 60 {
		shown = append(shown, dt)
	}
	for rho := 0; rho <= api.MaxDrift; rho++ {
		for _, dt := range shown {
			c, ok := span.Drift(dt, rho)
			lo, hi, right := span.Parts(c)
			if !ok || !right {
				t.Fatalf("Drift(%d, %d): %v, %v", dt, rho, c, ok)
			}
			if lo*(1000+rho) > dt*1000 || (lo+1)*(1000+rho) <= dt*1000 {
				t.Fatalf("Drift(%d, %d) begins at %d", dt, rho, lo)
			}
			if hi*(1000-rho) < dt*1000 || (hi-1)*(1000-rho) >= dt*1000 {
				t.Fatalf("Drift(%d, %d) ends at %d", dt, rho, hi)
			}
		}
	}
}

// inside looks whether the sum and the difference of p in x and q in y are in what Add and Sub answer.
func inside(t *testing.T, x, y complex128, p, q int) {
	t.Helper()
	if sum, ok := span.Add(x, y); ok && !span.Within(of(p+q, p+q), sum) {
		t.Errorf("%d in %v, %d in %v: Add: %v", p, x, q, y, sum)
	}
	if less, ok := span.Sub(x, y); ok && !span.Within(of(p-q, p-q), less) {
		t.Errorf("%d in %v, %d in %v: Sub: %v", p, x, q, y, less)
	}
}

func TestP3_3_SumsAndDifferences(t *testing.T) {
	each(3, func(a, b, c, d int) {
		x, y := of(a, b), of(c, d)
		if sum, ok := span.Add(x, y); !ok || sum != of(a+c, b+d) {
			t.Errorf("Add(%v, %v): %v, %v", x, y, sum, ok)
		}
		if less, ok := span.Sub(x, y); !ok || less != of(a-d, b-c) {
			t.Errorf("Sub(%v, %v): %v, %v", x, y, less, ok)
		}
		for p := a; p <= b; p++ {
			for q := c; q <= d; q++ {
				inside(t, x, y, p, q)
			}
		}
	})
}

// Far out each one still counts: no part is rounded.
func TestP3_3_FarOut(t *testing.T) {
	for _, c := range []struct{ a, b, c, d int }{
		{far / 2, far/2 + 3, far/2 - 9, far/2 - 3},
		{-far / 2, 1 - far/2, -far / 2, 4 - far/2},
		{far - 4, far, -far, 3 - far},
		{far - 4, far, far - 3, far},
		{-far, 4 - far, -far, 3 - far},
		{far - 4, far - 1, -2, 1},
		{1 - far, 4 - far, -1, 2},
	} {
		x, y := of(c.a, c.b), of(c.c, c.d)
		for p := c.a; p <= c.b; p++ {
			for q := c.c; q <= c.d; q++ {
				inside(t, x, y, p, q)
			}
		}
	}
}

// From b on what Sub answers goes by, and it is a: the way back has a, whatever both are.
func TestP3_3_ThereAndBack(t *testing.T) {
	each(3, func(a, b, c, d int) {
		x, y := of(a, b), of(c, d)
		less, _ := span.Sub(x, y)
		if back, ok := span.Add(less, y); !ok || !span.Within(x, back) {
			t.Errorf("Sub(%v, %v) and back: %v, %v", x, y, back, ok)
		}
		sum, _ := span.Add(x, y)
		if back, ok := span.Sub(sum, y); !ok || !span.Within(x, back) {
			t.Errorf("Add(%v, %v) and back: %v, %v", x, y, back, ok)
		}
	})
}
