package guard_test

import (
	"math/rand"
	"regexp"
	"slices"
	"strconv"
	"strings"
	"testing"

	"conclave/api"
	"conclave/guard"
)

// The chapter by other means: words by patterns, what is open by a list, and values from the right to the left.
var (
	aWord   = regexp.MustCompile(`[^ ]+`)
	aNumber = regexp.MustCompile(`^-?[0-9]{1,4}$`)
	aName   = regexp.MustCompile(`^[a-z]{1,12}$`)
)

func modelName(s string) bool {
	return aName.MatchString(s) && !slices.Contains(operations(), s) && !slices.Contains(kept(), s)
}

func modelUses(s string) []string {
	all := slices.DeleteFunc(aWord.FindAllString(s, -1), func(w string) bool { return !modelName(w) })
	slices.Sort(all)
	return slices.Compact(all)
}

// modelParts answers of how many guards w is an operation.
func modelParts(w string) int {
	switch {
	case w == "not":
		return 1
	case slices.Contains(operations(), w):
		return 2
	}
	return 0
}

func modelCheck(s string, names []string) (api.Errno, int) {
	if len(s) > 120 {
		return api.ErrLong, 0
	}
	missing := []int{1} // guards: of the whole, then of each operation that is open
	for _, at := range aWord.FindAllStringIndex(s, -1) {
		w := s[at[0]:at[1]]
		switch {
		case !aNumber.MatchString(w) && !modelName(w) && modelParts(w) == 0:
			return api.ErrForm, at[0]
		case modelName(w) && !slices.Contains(names, w):
			return api.ErrName, at[0]
		case len(missing) > 17:
			return api.ErrDeep, at[0]
		case len(missing) == 0:
			return api.ErrTail, at[0]
		}
		missing[len(missing)-1]--
		missing = append(missing, modelParts(w))
		for len(missing) > 0 && missing[len(missing)-1] == 0 {
			missing = missing[:len(missing)-1]
		}
	}
	if len(missing) > 0 {
		return api.ErrEnd, len(s)
	}
	return api.OK, 0
}

func modelEval(s string, names []string, vals []int) (int, api.Errno) {
	if why, _ := modelCheck(s, names); why != api.OK {
		return 0, why
	}
	if len(vals) < len(names) {
		return 0, api.ErrArg
	}
	words := aWord.FindAllString(s, -1)
	var got []int
	pop := func() int {
		n := got[len(got)-1]
		got = got[:len(got)-1]
		return n
	}
	for _, w := range slices.Backward(words) {
		switch modelParts(w) {
		case 2:
			a := pop()
			got = append(got, byWords(w, a, pop()))
		case 1:
			got = append(got, byWords(w, pop(), 0))
		default:
			n, err := strconv.Atoi(w)
			if err != nil {
				n = vals[slices.Index(names, w)]
			}
			got = append(got, n)
		}
	}
	return pop(), api.OK
}

// agrees looks whether all calls answer of s what the model does.
func agrees(t *testing.T, s string, names []string, vals []int) api.Errno {
	t.Helper()
	if got, want := guard.Name(s), modelName(s); got != want {
		t.Errorf("Name(%q): %v", s, got)
	}
	why, at := modelCheck(s, names)
	checks(t, s, names, why, at)
	n, whyEval := modelEval(s, names, vals)
	if gotN, got := guard.Eval(s, names, vals); gotN != n || got != whyEval {
		t.Errorf("Eval(%q, %q, %v): %d, %d; not %d, %d", s, names, vals, gotN, got, n, whyEval)
	}
	uses(t, s, modelUses(s)...)
	return why
}

func TestP12_AllRowsOfWords(t *testing.T) {
	words := []string{"1", "-2", "a", "zz", "not", "and", "sub", "lt", "?"}
	names, vals := []string{"a"}, []int{5}
	rows := []string{""}
	for range 5 {
		var longer []string
		for _, row := range rows {
			for _, w := range words {
				longer = append(longer, row+w+" ")
			}
		}
		rows = longer
		for _, row := range rows {
			agrees(t, row[:len(row)-1], names, vals)
		}
		if t.Failed() {
			return
		}
	}
}

// All short rows of bytes of each kind.
func TestP12_AllRowsOfBytes(t *testing.T) {
	const kinds = "a1- ?r"
	rows := []string{""}
	for range 6 {
		var longer []string
		for _, row := range rows {
			for _, b := range kinds {
				longer = append(longer, row+string(b))
			}
		}
		rows = longer
		for _, row := range rows {
			agrees(t, row, []string{"a", "ar", "r", "aa"}, []int{1, -2, 0, 7})
			agrees(t, "o"+row, []string{"a", "o"}, []int{3, 0})
		}
		if t.Failed() {
			return
		}
	}
}

// grown answers the words of a guard that goes deep operations down at most, on one side more than on the other.
func grown(r *rand.Rand, deep int) []string {
	if deep == 0 || r.Intn(30) == 0 {
		return []string{[]string{"a", "b", "zz", "0", "1", strconv.Itoa(r.Intn(19999) - 9999)}[r.Intn(6)]}
	}
	op := append(operations(), "not", "or", "lt")[r.Intn(10)] // short ones oftener: MaxText is soon full
	if op == "not" {
		return append([]string{op}, grown(r, deep-1)...)
	}
	one, other := grown(r, deep-1), grown(r, r.Intn(8)/7)
	if r.Intn(2) == 0 {
		one, other = other, one
	}
	return slices.Concat([]string{op}, one, other)
}

// spoilt takes a word away, doubles one or puts another one in its place.
func spoilt(r *rand.Rand, words []string) []string {
	k := r.Intn(len(words))
	switch r.Intn(4) {
	case 0:
		return slices.Delete(words, k, k+1)
	case 1:
		return slices.Insert(words, k, words[k])
	case 2:
		return append(words, "1")
	}
	words[k] = []string{"?", "yy", "type", "12345", "-", "A", "not", "add", "1"}[r.Intn(9)]
	return words
}

func TestP12_SeededGuards(t *testing.T) {
	r := rand.New(rand.NewSource(12))
	names := []string{"a", "b", "zz", "a"}
	told := map[api.Errno]int{}
	for range 60000 {
		words := grown(r, r.Intn(20))
		for r.Intn(3) == 0 && len(words) > 0 {
			words = spoilt(r, words)
		}
		s := strings.Repeat(" ", r.Intn(2)) + strings.Join(words, strings.Repeat(" ", 1+r.Intn(8)/7)) + strings.Repeat(" ", r.Intn(2))
		vals := []int{someInts()[r.Intn(22)], r.Intn(9) - 4, someInts()[r.Intn(22)], 77}
		told[agrees(t, s, names, vals[:3+min(r.Intn(20), 1)])]++
		if t.Failed() {
			return
		}
	}
	for _, why := range []api.Errno{api.OK, api.ErrLong, api.ErrForm, api.ErrName, api.ErrDeep, api.ErrTail, api.ErrEnd} {
		if told[why] < 100 {
			t.Errorf("%d came %d times only", why, told[why])
		}
	}
}
