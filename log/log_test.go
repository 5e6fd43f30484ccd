package log_test

import (
	"fmt"
	"math"
	"slices"
	"strings"
	"testing"

	"conclave/api"
	"conclave/log"
)

// shown tells all that a log answers without being turned: base, taken and next, and each slot that is known.
func shown(l *log.Log) string {
	var b strings.Builder
	fmt.Fprint(&b, l.Base(), " ", l.Taken(), " ", l.Next())
	for slot := -2; slot < api.MaxSlots+2; slot++ {
		if v, ok := l.Get(slot); ok {
			fmt.Fprintf(&b, " %d=%s", slot, v)
		} else if v != "" {
			fmt.Fprintf(&b, " %d:%q beside false", slot, v)
		}
	}
	return b.String()
}

// holds looks whether l is shown as want.
func holds(t *testing.T, what string, l *log.Log, want string) {
	t.Helper()
	if got := shown(l); got != want {
		t.Errorf("%s: %.300s; not %.300s", what, got, want)
	}
}

// answers looks whether a call has answered want.
func answers(t *testing.T, what string, got, want api.Errno) {
	t.Helper()
	if got != want {
		t.Errorf("%s: %d; not %d", what, got, want)
	}
}

// turnsNothing looks whether call answers want and leaves l as it was.
func turnsNothing(t *testing.T, what string, l *log.Log, call func() api.Errno, want api.Errno) {
	t.Helper()
	before := shown(l)
	answers(t, what, call(), want)
	holds(t, what, l, before)
}

// takes looks whether Take answers want.
func takes(t *testing.T, what string, l *log.Log, want ...string) {
	t.Helper()
	if got := l.Take(); !slices.Equal(got, want) {
		t.Errorf("%s: Take: %.200q; not %.200q", what, got, want)
	}
}

// gaps looks whether Gaps(below) answers want.
func gaps(t *testing.T, what string, l *log.Log, below int, want ...int) {
	t.Helper()
	if got := l.Gaps(below); !slices.Equal(got, want) {
		t.Errorf("%s: Gaps(%d): %v; not %v", what, below, got, want)
	}
}

// gets looks whether Get answers want and true.
func gets(t *testing.T, what string, l *log.Log, slot int, want string) {
	t.Helper()
	if got, ok := l.Get(slot); got != want || !ok {
		t.Errorf("%s: Get(%d): %q, %t; not %q, true", what, slot, got, ok, want)
	}
}

// lacks looks whether Get answers false of each slot.
func lacks(t *testing.T, what string, l *log.Log, slots ...int) {
	t.Helper()
	for _, slot := range slots {
		if got, ok := l.Get(slot); got != "" || ok {
			t.Errorf("%s: Get(%d): %q, %t; not false", what, slot, got, ok)
		}
	}
}

// value is what learned lets be chosen at slot.
func value(slot int) string { return fmt.Sprint("v", slot) }

// learned answers a log that has learned the slots, in that order.
func learned(t *testing.T, slots ...int) *log.Log {
	t.Helper()
	l := log.New()
	learn(t, l, slots...)
	return l
}

func learn(t *testing.T, l *log.Log, slots ...int) {
	t.Helper()
	for _, slot := range slots {
		answers(t, fmt.Sprint("Learn of ", slot), l.Learn(slot, value(slot)), api.OK)
	}
}

// upTo answers the numbers from lo to below hi.
func upTo(lo, hi int) []int {
	var all []int
	for n := lo; n < hi; n++ {
		all = append(all, n)
	}
	return all
}

// compacted answers a log whose slots 0 to 5 were taken, of which those below 3 are forgotten, and that knows 8
// behind a gap.
func compacted(t *testing.T) *log.Log {
	t.Helper()
	l := learned(t, upTo(0, 6)...)
	takes(t, "the first six", l, "v0", "v1", "v2", "v3", "v4", "v5")
	learn(t, l, 8)
	answers(t, "Compact(3)", l.Compact(3), api.OK)
	holds(t, "Compact(3)", l, "3 6 6 3=v3 4=v4 5=v5 8=v8")
	return l
}

func TestP9_1_Runs(t *testing.T) {
	l := log.New()
	answers(t, "the first run", l.Learn(1, "b"), api.OK)
	takes(t, "the first run", l)
	answers(t, "the first run", l.Learn(0, "a"), api.OK)
	takes(t, "the first run", l, "a", "b")
	l = log.New()
	answers(t, "the second run", l.Learn(0, "a"), api.OK)
	answers(t, "the second run", l.Learn(0, "z"), api.Clash)
	gets(t, "the second run", l, 0, "a")
}

func TestP9_Examples(t *testing.T) {
	if got := log.New().Next(); got != 0 {
		t.Errorf("Next of a new one: %d", got)
	}
	gaps(t, "the second example", learned(t, 1), 3, 0, 2)
	answers(t, "the third example", log.New().Compact(1), api.ErrArg)
	l := learned(t, 0, 1)
	turnsNothing(t, "Compact(1) ahead of Take", l, func() api.Errno { return l.Compact(1) }, api.ErrArg)
}

func TestP9_1_New(t *testing.T) {
	l := log.New()
	if l == nil {
		t.Fatal("New: nil")
	}
	holds(t, "a new one", l, "0 0 0")
	takes(t, "a new one", l)
	gaps(t, "a new one", l, 3, 0, 1, 2)
	holds(t, "a new one that was asked", l, "0 0 0")
}

func TestP9_1_LearnNoSlot(t *testing.T) {
	for _, slot := range []int{math.MinInt, -api.MaxSlots, -2, -1, api.MaxSlots, api.MaxSlots + 1, 1 << 32, math.MaxInt} {
		for what, l := range map[string]*log.Log{"a new one": log.New(), "a compacted one": compacted(t)} {
			what = fmt.Sprintf("%s: Learn of %d", what, slot)
			turnsNothing(t, what, l, func() api.Errno { return l.Learn(slot, "x") }, api.ErrArg)
			turnsNothing(t, what, l, func() api.Errno { return l.Learn(slot, "") }, api.ErrArg)
			lacks(t, what, l, slot)
		}
	}
}

func TestP9_1_LearnEachSlot(t *testing.T) {
	for _, slot := range upTo(0, api.MaxSlots) {
		next := 0
		if slot == 0 {
			next = 1
		}
		holds(t, fmt.Sprint("Learn of ", slot), learned(t, slot), fmt.Sprintf("0 0 %d %d=v%d", next, slot, slot))
	}
	l := learned(t, 0, api.MaxSlots-1)
	holds(t, "the first and the last", l, "0 0 1 0=v0 511=v511")
}

func TestP9_1_LearnAgain(t *testing.T) {
	l := learned(t, 0, 1, 5, api.MaxSlots-1)
	for _, slot := range []int{0, 1, 5, api.MaxSlots - 1} {
		what := fmt.Sprint("known: Learn of ", slot)
		turnsNothing(t, what, l, func() api.Errno { return l.Learn(slot, value(slot)) }, api.OK)
		for _, other := range []string{"", "z", value(slot) + " ", value(slot)[:1], strings.ToUpper(value(slot))} {
			turnsNothing(t, what+" with another", l, func() api.Errno { return l.Learn(slot, other) }, api.Clash)
		}
		turnsNothing(t, what+" behind the others", l, func() api.Errno { return l.Learn(slot, value(slot)) }, api.OK)
	}
	takes(t, "what was first", l, "v0", "v1")
}

func TestP9_1_LearnTaken(t *testing.T) {
	l := learned(t, 0, 1, 2)
	takes(t, "Take", l, "v0", "v1", "v2")
	for slot := range 3 {
		what := fmt.Sprint("taken: Learn of ", slot)
		turnsNothing(t, what, l, func() api.Errno { return l.Learn(slot, value(slot)) }, api.OK)
		turnsNothing(t, what+" with another", l, func() api.Errno { return l.Learn(slot, "z") }, api.Clash)
	}
	takes(t, "nothing new", l)
	holds(t, "nothing new", l, "0 3 3 0=v0 1=v1 2=v2")
}

func TestP9_1_LearnBelowBase(t *testing.T) {
	l := compacted(t)
	for slot := range 3 {
		what := fmt.Sprint("forgotten: Learn of ", slot)
		turnsNothing(t, what, l, func() api.Errno { return l.Learn(slot, value(slot)) }, api.OK)
		turnsNothing(t, what+" with another", l, func() api.Errno { return l.Learn(slot, "z") }, api.OK)
	}
	turnsNothing(t, "at Base", l, func() api.Errno { return l.Learn(3, "v3") }, api.OK)
	turnsNothing(t, "at Base with another", l, func() api.Errno { return l.Learn(3, "z") }, api.Clash)
	takes(t, "nothing new", l)
}

func TestP9_1_EmptyValue(t *testing.T) {
	l := log.New()
	answers(t, "an empty value", l.Learn(1, ""), api.OK)
	gets(t, "an empty value", l, 1, "")
	lacks(t, "beside an empty value", l, 0, 2)
	gaps(t, "an empty value", l, 3, 0, 2)
	turnsNothing(t, "an empty value again", l, func() api.Errno { return l.Learn(1, "") }, api.OK)
	turnsNothing(t, "another than an empty one", l, func() api.Errno { return l.Learn(1, "x") }, api.Clash)
	answers(t, "an empty value", l.Learn(0, ""), api.OK)
	takes(t, "empty values", l, "", "")
	holds(t, "empty values", l, "0 2 2 0= 1=")
}

func TestP9_1_ValuesAreBytes(t *testing.T) {
	all := []string{"\x00", "\xff\xfe", "é", "a\x00b", strings.Repeat("v", 1<<17)}
	l := log.New()
	for slot, v := range all {
		answers(t, "a value", l.Learn(slot, v), api.OK)
		gets(t, "a value", l, slot, v)
	}
	takes(t, "values", l, all...)
	same := []byte("mine")
	l = log.New()
	answers(t, "bytes that turn", l.Learn(0, string(same)), api.OK)
	copy(same, "your")
	gets(t, "bytes that turn", l, 0, "mine")
}

func TestP9_1_Next(t *testing.T) {
	for _, c := range []struct {
		slots []int
		want  int
	}{
		{nil, 0}, {[]int{0}, 1}, {[]int{1}, 0}, {[]int{0, 1}, 2}, {[]int{1, 0}, 2}, {[]int{0, 2}, 1},
		{[]int{0, 2, 1}, 3}, {[]int{2, 1, 0, 4}, 3}, {[]int{4, 3, 2, 1}, 0}, {[]int{0, 511}, 1},
		{upTo(0, 511), 511}, {upTo(1, 512), 0}, {upTo(0, 512), 512},
	} {
		l := learned(t, c.slots...)
		if got := l.Next(); got != c.want {
			t.Errorf("Next with %v: %d; not %d", c.slots, got, c.want)
		}
		if got := l.Next(); got != c.want {
			t.Errorf("Next with %v, asked again: %d; not %d", c.slots, got, c.want)
		}
		l.Take()
		if got := l.Next(); got != c.want {
			t.Errorf("Next with %v behind Take: %d; not %d", c.slots, got, c.want)
		}
	}
}

func TestP9_1_AllSlots(t *testing.T) {
	all := upTo(0, api.MaxSlots)
	slices.Reverse(all)
	l := learned(t, all...)
	var want []string
	for slot := range api.MaxSlots {
		want = append(want, value(slot))
	}
	gaps(t, "all known", l, math.MaxInt)
	takes(t, "all known", l, want...)
	takes(t, "all known, again", l)
	turnsNothing(t, "past the last", l, func() api.Errno { return l.Learn(api.MaxSlots, "x") }, api.ErrArg)
	answers(t, "Compact of all", l.Compact(api.MaxSlots), api.OK)
	holds(t, "Compact of all", l, "512 512 512")
	turnsNothing(t, "Compact of all, again", l, func() api.Errno { return l.Compact(api.MaxSlots) }, api.OK)
	turnsNothing(t, "the last, forgotten", l, func() api.Errno { return l.Learn(api.MaxSlots-1, "x") }, api.OK)
	turnsNothing(t, "past the last", l, func() api.Errno { return l.Learn(api.MaxSlots, "x") }, api.ErrArg)
	takes(t, "Compact of all", l)
	gaps(t, "Compact of all", l, math.MaxInt)
}

func TestP9_1_Take(t *testing.T) {
	l := log.New()
	takes(t, "of none", l)
	learn(t, l, 0)
	holds(t, "ahead of Take", l, "0 0 1 0=v0")
	takes(t, "of one", l, "v0")
	holds(t, "behind Take", l, "0 1 1 0=v0")
	takes(t, "twice in a row", l)
	learn(t, l, 2, 3)
	takes(t, "behind a gap", l)
	holds(t, "behind a gap", l, "0 1 1 0=v0 2=v2 3=v3")
	learn(t, l, 1)
	holds(t, "the gap is filled", l, "0 1 4 0=v0 1=v1 2=v2 3=v3")
	takes(t, "of several", l, "v1", "v2", "v3")
	takes(t, "of several, twice in a row", l)
	learn(t, l, 4, 6)
	takes(t, "up to a gap", l, "v4")
	takes(t, "up to a gap, twice in a row", l)
	holds(t, "up to a gap", l, "0 5 5 0=v0 1=v1 2=v2 3=v3 4=v4 6=v6")
}

func TestP9_1_TakeOnlyTakes(t *testing.T) {
	l := learned(t, 0, 1)
	for range 3 {
		l.Next()
		l.Gaps(9)
		l.Get(0)
		l.Taken()
		l.Base()
	}
	holds(t, "asked", l, "0 0 2 0=v0 1=v1")
	answers(t, "Clash", l.Learn(1, "z"), api.Clash)
	takes(t, "asked", l, "v0", "v1")
}

func TestP9_1_Gaps(t *testing.T) {
	l := learned(t, 0, 1, 2, 4, 7, 8, 511)
	for _, taken := range []bool{false, true} {
		what := fmt.Sprint("taken: ", taken)
		for _, below := range []int{math.MinInt, -512, -1, 0, 1, 2, 3} {
			gaps(t, what, l, below)
		}
		gaps(t, what, l, 4, 3)
		gaps(t, what, l, 5, 3)
		gaps(t, what, l, 6, 3, 5)
		gaps(t, what, l, 7, 3, 5, 6)
		gaps(t, what, l, 8, 3, 5, 6)
		gaps(t, what, l, 9, 3, 5, 6)
		gaps(t, what, l, 10, 3, 5, 6, 9)
		most := append([]int{3, 5, 6}, upTo(9, 511)...)
		gaps(t, what, l, 510, most[:len(most)-1]...)
		for _, below := range []int{511, 512, 513, 1 << 32, math.MaxInt - 1, math.MaxInt} {
			gaps(t, what, l, below, most...)
		}
		l.Take()
	}
	holds(t, "asked", l, "0 3 3 0=v0 1=v1 2=v2 4=v4 7=v7 8=v8 511=v511")
}

func TestP9_1_GapsWithNoneKnown(t *testing.T) {
	for _, below := range []int{math.MinInt, -1, 0} {
		gaps(t, "a new one", log.New(), below)
	}
	for _, below := range []int{1, 2, 511, 512} {
		gaps(t, "a new one", log.New(), below, upTo(0, below)...)
	}
	for _, below := range []int{513, math.MaxInt} {
		gaps(t, "a new one", log.New(), below, upTo(0, 512)...)
	}
	l := compacted(t)
	gaps(t, "behind Compact", l, 3)
	gaps(t, "behind Compact", l, 6)
	gaps(t, "behind Compact", l, 10, 6, 7, 9)
	answers(t, "Jump", l.Jump(7), api.OK)
	gaps(t, "behind Jump", l, 7)
	gaps(t, "behind Jump", l, 11, 7, 9, 10)
}

func TestP9_1_GapsAreFilled(t *testing.T) {
	l := learned(t, 3, 17, 510)
	for _, slot := range l.Gaps(api.MaxSlots) {
		learn(t, l, slot)
	}
	gaps(t, "filled", l, api.MaxSlots)
	if got := l.Next(); got != api.MaxSlots {
		t.Errorf("all gaps are filled, and Next is %d", got)
	}
}

func TestP9_2_CompactRefused(t *testing.T) {
	l := compacted(t)
	learn(t, l, 6)
	for _, n := range []int{math.MinInt, -1, 0, 1, 2, 7, 8, 9, 10, 512, 513, math.MaxInt} {
		turnsNothing(t, fmt.Sprintf("Compact(%d)", n), l, func() api.Errno { return l.Compact(n) }, api.ErrArg)
	}
	takes(t, "refused", l, "v6")
	answers(t, "taken now", l.Compact(7), api.OK)
	holds(t, "taken now", l, "7 7 7 8=v8")
	fresh := log.New()
	for _, n := range []int{math.MinInt, -1, 1, 512, math.MaxInt} {
		turnsNothing(t, fmt.Sprintf("Compact(%d) of a new one", n), fresh, func() api.Errno { return fresh.Compact(n) }, api.ErrArg)
	}
	turnsNothing(t, "Compact(0) of a new one", fresh, func() api.Errno { return fresh.Compact(0) }, api.OK)
}

func TestP9_2_CompactStepByStep(t *testing.T) {
	for n, want := range map[int]string{
		3: "3 6 6 3=v3 4=v4 5=v5 8=v8", 4: "4 6 6 4=v4 5=v5 8=v8", 5: "5 6 6 5=v5 8=v8", 6: "6 6 6 8=v8",
	} {
		l := compacted(t)
		answers(t, fmt.Sprintf("Compact(%d)", n), l.Compact(n), api.OK)
		holds(t, fmt.Sprintf("Compact(%d)", n), l, want)
		lacks(t, fmt.Sprintf("Compact(%d)", n), l, upTo(-1, n)...)
		turnsNothing(t, fmt.Sprintf("Compact(%d), again", n), l, func() api.Errno { return l.Compact(n) }, api.OK)
		turnsNothing(t, fmt.Sprintf("Compact(%d), then below", n), l, func() api.Errno { return l.Compact(n - 1) }, api.ErrArg)
		takes(t, fmt.Sprintf("Compact(%d)", n), l)
		learn(t, l, 7, 6)
		takes(t, fmt.Sprintf("Compact(%d), then more", n), l, "v6", "v7", "v8")
	}
}

func TestP9_2_ForgottenStays(t *testing.T) {
	l := compacted(t)
	for slot := range 3 {
		answers(t, "forgotten", l.Learn(slot, "new"), api.OK)
		lacks(t, "forgotten", l, slot)
	}
	gaps(t, "forgotten", l, 9, 6, 7)
	takes(t, "forgotten", l)
	turnsNothing(t, "Compact below Base", l, func() api.Errno { return l.Compact(2) }, api.ErrArg)
}

func TestP9_2_JumpRefused(t *testing.T) {
	for what, l := range map[string]*log.Log{"a new one": log.New(), "a compacted one": compacted(t), "one with a value": learned(t, 0)} {
		for _, n := range []int{math.MinInt, -513, -1, api.MaxSlots + 1, 1 << 32, math.MaxInt} {
			turnsNothing(t, fmt.Sprintf("%s: Jump(%d)", what, n), l, func() api.Errno { return l.Jump(n) }, api.ErrArg)
		}
	}
}

func TestP9_2_JumpNotAbove(t *testing.T) {
	l := compacted(t)
	for n := range 7 {
		turnsNothing(t, fmt.Sprintf("Jump(%d)", n), l, func() api.Errno { return l.Jump(n) }, api.OK)
	}
	fresh := log.New()
	turnsNothing(t, "Jump(0) of a new one", fresh, func() api.Errno { return fresh.Jump(0) }, api.OK)
	known := learned(t, 0, 1)
	turnsNothing(t, "Jump(0) of one with values", known, func() api.Errno { return known.Jump(0) }, api.OK)
	takes(t, "Jump(0) of one with values", known, "v0", "v1")
}

func TestP9_2_JumpAbove(t *testing.T) {
	for n, want := range map[int]string{
		7: "7 7 7 8=v8 9=v9 511=v511", 8: "8 8 10 8=v8 9=v9 511=v511", 9: "9 9 10 9=v9 511=v511",
		10: "10 10 10 511=v511", 11: "11 11 11 511=v511", 511: "511 511 512 511=v511", 512: "512 512 512",
	} {
		l := compacted(t)
		learn(t, l, 9, 511)
		what := fmt.Sprintf("Jump(%d)", n)
		answers(t, what, l.Jump(n), api.OK)
		holds(t, what, l, want)
		lacks(t, what, l, upTo(-1, n)...)
		turnsNothing(t, what+", again", l, func() api.Errno { return l.Jump(n) }, api.OK)
		turnsNothing(t, what+", then below", l, func() api.Errno { return l.Jump(n - 1) }, api.OK)
		turnsNothing(t, what+", then Compact below", l, func() api.Errno { return l.Compact(n - 1) }, api.ErrArg)
		turnsNothing(t, what+", then Compact there", l, func() api.Errno { return l.Compact(n) }, api.OK)
		turnsNothing(t, what+", then Learn below", l, func() api.Errno { return l.Learn(n-1, "z") }, api.OK)
		var left []string
		for slot := n; slot < l.Next(); slot++ {
			left = append(left, value(slot))
		}
		takes(t, what, l, left...)
	}
}

func TestP9_2_JumpOverUntaken(t *testing.T) {
	l := learned(t, 0, 1, 2, 3, 5)
	answers(t, "Jump", l.Jump(2), api.OK)
	holds(t, "over two that were not taken", l, "2 2 4 2=v2 3=v3 5=v5")
	takes(t, "the rest", l, "v2", "v3")
	answers(t, "Jump", l.Jump(5), api.OK)
	holds(t, "over a gap", l, "5 5 6 5=v5")
	turnsNothing(t, "another value where it is known", l, func() api.Errno { return l.Learn(5, "z") }, api.Clash)
	takes(t, "behind a gap", l, "v5")
	answers(t, "Jump", l.Jump(9), api.OK)
	takes(t, "over nothing", l)
	learn(t, l, 10)
	takes(t, "behind what is not known", l)
	learn(t, l, 9)
	takes(t, "behind a Jump", l, "v9", "v10")
	holds(t, "behind a Jump", l, "9 11 11 9=v9 10=v10")
}

func TestP9_2_JumpToTheEnd(t *testing.T) {
	l := log.New()
	answers(t, "Jump", l.Jump(api.MaxSlots), api.OK)
	holds(t, "the end", l, "512 512 512")
	gaps(t, "the end", l, math.MaxInt)
	takes(t, "the end", l)
	turnsNothing(t, "the end: Learn", l, func() api.Errno { return l.Learn(511, "x") }, api.OK)
	turnsNothing(t, "the end: Learn past it", l, func() api.Errno { return l.Learn(512, "x") }, api.ErrArg)
	turnsNothing(t, "the end: Learn below 0", l, func() api.Errno { return l.Learn(-1, "x") }, api.ErrArg)
	turnsNothing(t, "the end: Jump past it", l, func() api.Errno { return l.Jump(513) }, api.ErrArg)
	l = log.New()
	answers(t, "Jump", l.Jump(api.MaxSlots-1), api.OK)
	gaps(t, "the last", l, math.MaxInt, 511)
	learn(t, l, 511)
	takes(t, "the last", l, "v511")
	holds(t, "the last", l, "511 512 512 511=v511")
}

func TestP9_2_Get(t *testing.T) {
	l := compacted(t)
	learn(t, l, 511)
	lacks(t, "negative", l, math.MinInt, -512, -1)
	lacks(t, "forgotten", l, 0, 1, 2)
	for slot := 3; slot < 6; slot++ {
		gets(t, "taken", l, slot, value(slot))
	}
	lacks(t, "not known", l, 6, 7, 9, 510)
	gets(t, "known", l, 8, "v8")
	gets(t, "the last", l, 511, "v511")
	lacks(t, "past the last", l, 512, 513, 1<<32, math.MaxInt)
	holds(t, "asked", l, "3 6 6 3=v3 4=v4 5=v5 8=v8 511=v511")
}

func TestP9_LogsAreApart(t *testing.T) {
	a, b := log.New(), log.New()
	answers(t, "one", a.Learn(0, "x"), api.OK)
	holds(t, "another", b, "0 0 0")
	answers(t, "another", b.Learn(0, "y"), api.OK)
	takes(t, "one", a, "x")
	answers(t, "another", b.Jump(4), api.OK)
	holds(t, "one", a, "0 1 1 0=x")
	holds(t, "another", b, "4 4 4")
}

// spoil writes to a list and to the room behind it.
func spoil[T any](l []T, v T) {
	l = l[:cap(l)]
	for k := range l {
		l[k] = v
	}
}

func TestR2_Take(t *testing.T) {
	l := learned(t, 0, 1, 2, 4)
	first := l.Take()
	kept := slices.Clone(first)
	learn(t, l, 3)
	second := l.Take()
	if !slices.Equal(first, kept) {
		t.Errorf("Learn and Take turned what Take had answered: %v", first)
	}
	spoil(first, "spoilt")
	if !slices.Equal(second, []string{"v3", "v4"}) {
		t.Errorf("two answers of Take share memory: %v", second)
	}
	spoil(second, "spoilt")
	holds(t, "Take's answers were written to", l, "0 5 5 0=v0 1=v1 2=v2 3=v3 4=v4")
	learn(t, l, 5)
	takes(t, "Take's answers were written to", l, "v5")
	other := learned(t, 0, 1, 2)
	kept = other.Take()
	answers(t, "Compact", other.Compact(2), api.OK)
	answers(t, "Jump", other.Jump(9), api.OK)
	if !slices.Equal(kept, []string{"v0", "v1", "v2"}) {
		t.Errorf("Compact and Jump turned what Take had answered: %v", kept)
	}
}

func TestR2_Gaps(t *testing.T) {
	l := learned(t, 0, 3)
	first, second := l.Gaps(6), l.Gaps(6)
	spoil(first, 3)
	if !slices.Equal(second, []int{1, 2, 4, 5}) {
		t.Errorf("two answers of Gaps share memory: %v", second)
	}
	gaps(t, "Gaps' answer was written to", l, 6, 1, 2, 4, 5)
	holds(t, "Gaps' answer was written to", l, "0 0 1 0=v0 3=v3")
	learn(t, l, 1, 2, 4)
	answers(t, "Jump", l.Jump(5), api.OK)
	if !slices.Equal(second, []int{1, 2, 4, 5}) {
		t.Errorf("Learn and Jump turned what Gaps had answered: %v", second)
	}
}
