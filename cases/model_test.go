package cases_test

import (
	"math"
	"math/rand"
	"slices"
	"strconv"
	"strings"
	"testing"

	"conclave/api"
	"conclave/cases"
	"conclave/schema"
)

// The chapter by other means: a case is a map from names to numbers, and guards are reckoned from their ends on.
type model struct {
	x   api.Type
	now map[string]int
}

func modelNew(x api.Type) model {
	m := model{x, map[string]int{}}
	for _, a := range x.Attrs {
		m.now[a.Name] = a.Start
	}
	m.settle()
	return m
}

// guard answers what a guard is now. From its end on, the parts of each operation are there when it comes.
func (m model) guard(s string) int {
	var parts []int
	words := strings.Fields(s)
	slices.Reverse(words)
	for _, w := range words {
		n, err := strconv.Atoi(w)
		if err != nil {
			n = m.now[w]
		}
		if at := slices.Index([]string{"not", "and", "or", "lt", "eq", "add", "sub"}, w); at >= 0 {
			a, b, few := parts[len(parts)-1], 0, 1
			if at > 0 {
				b, few = parts[len(parts)-2], 2
			}
			one := map[bool]int{true: 1}
			n = []int{one[a == 0], one[a*b != 0], one[a != 0 || b != 0], one[a < b], one[a == b], a + b, a - b}[at]
			parts = parts[:len(parts)-few]
		}
		parts = append(parts, n)
	}
	return parts[0]
}

func (m model) settle() {
	more := 0
	for _, r := range m.x.Marks {
		if m.now[r.Name] == 0 && m.guard(r.Guard) != 0 {
			m.now[r.Name] = 1
			more++
		}
	}
	if more > 0 {
		m.settle()
	}
}

func (m model) ready() []string {
	var all []string
	for _, r := range m.x.Stages {
		if m.now[r.Name] == 0 && m.guard(r.Guard) != 0 {
			all = append(all, r.Name)
		}
	}
	return all
}

func (m model) text() string {
	parts := []string{m.x.Name}
	for _, a := range m.x.Attrs {
		parts = append(parts, a.Name+"="+strconv.Itoa(m.now[a.Name]))
	}
	for _, r := range m.x.Stages {
		parts = append(parts, strings.Repeat("+"+r.Name, m.now[r.Name]))
	}
	for _, r := range m.x.Marks {
		parts = append(parts, strings.Repeat("*"+r.Name, m.now[r.Name]))
	}
	return strings.Join(slices.DeleteFunc(parts, func(s string) bool { return s == "" }), " ")
}

// apply answers what o tells and whether it is refused, and turns m unless it is.
func (m model) apply(o api.Op) (string, api.Errno) {
	at := slices.IndexFunc(m.x.Attrs, func(a api.Attr) bool { return a.Name == o.Name })
	sum := float64(o.N)
	switch o.Kind {
	case api.Read:
		return m.text(), api.OK
	case api.Fire:
		if !slices.Contains(m.ready(), o.Name) {
			return "", api.NoStage
		}
		m.now[o.Name] = 1
		m.settle()
		return "", api.OK
	case api.Add:
		sum += float64(m.now[o.Name])
	case api.Set:
	default:
		return "", api.ErrArg
	}
	if at < 0 {
		return "", api.NoName
	}
	if sum < float64(m.x.Attrs[at].Lo) || sum > float64(m.x.Attrs[at].Hi) {
		return "", api.Bound
	}
	m.now[o.Name] = int(sum)
	m.settle()
	return "", api.OK
}

// grown answers a guard over names.
func grown(r *rand.Rand, names []string, deep int) string {
	switch k := r.Intn(9); {
	case deep == 0 || k < 1:
		return strconv.Itoa(r.Intn(10) - 5)
	case k < 5 && len(names) > 0:
		return names[r.Intn(len(names))]
	case k < 6:
		return "not " + grown(r, names, deep-1)
	}
	op := []string{"and", "or", "lt", "eq", "add", "sub"}[r.Intn(6)]
	return op + " " + grown(r, names, deep-1) + " " + grown(r, names, deep-1)
}

// ruled answers n rules of other names each, with guards over all.
func ruled(r *rand.Rand, first string, n int, all []string) []api.Rule {
	var rules []api.Rule
	for i := range n {
		rules = append(rules, api.Rule{Name: first + string(rune('a'+i)), Guard: grown(r, all, r.Intn(4))})
	}
	return rules
}

// seeded answers a Right type.
func seeded(t *testing.T, r *rand.Rand) api.Type {
	attrs, stages, marks := r.Intn(7), r.Intn(7), r.Intn(7)
	x := api.Type{Name: "t"}
	for i := range attrs {
		most := []int{4, 20, 1000}[r.Intn(3)]
		at := []int{r.Intn(2*most+1) - most, r.Intn(2*most+1) - most, r.Intn(2*most+1) - most}
		slices.Sort(at)
		x.Attrs = append(x.Attrs, api.Attr{Name: "x" + string(rune('a'+i)), Lo: at[0], Start: at[1], Hi: at[2]})
	}
	x.Stages, x.Marks = ruled(r, "y", stages, nil), ruled(r, "z", marks, nil)
	all := schema.Names(x)
	x.Stages, x.Marks = ruled(r, "y", stages, all), ruled(r, "z", marks, all)
	if why := schema.Right(x); why != api.OK {
		t.Fatalf("%v: %d", x, why)
	}
	return x
}

// seededOp answers any operation, most often one that may be done.
func seededOp(r *rand.Rand, x api.Type, s api.State) api.Op {
	names := append(schema.Names(x), "t", "", "zz")
	o := api.Op{Kind: api.Set + r.Intn(4), Name: names[r.Intn(len(names))], N: r.Intn(11) - 5}
	attrs, ready := len(x.Attrs), cases.Ready(x, s)
	switch k := r.Intn(12); {
	case k == 0:
		o.Kind = r.Intn(9) - 1
	case k == 1:
		o.N = []int{math.MinInt, math.MaxInt, -2001, -2000, 2000, 2001, -1001, 1001}[r.Intn(8)]
	case k < 5 && attrs > 0:
		a := x.Attrs[r.Intn(attrs)]
		o.Kind, o.Name, o.N = api.Set, a.Name, a.Lo-1+r.Intn(a.Hi-a.Lo+3)
	case k < 8 && attrs > 0:
		i := r.Intn(attrs)
		a := x.Attrs[i]
		o.Kind, o.Name, o.N = api.Add, a.Name, a.Lo-1+r.Intn(a.Hi-a.Lo+3)-s.Vals[i]
	case k == 8 && len(ready) > 0:
		o.Kind, o.Name = api.Fire, ready[r.Intn(len(ready))]
	}
	return o
}

// agrees looks whether s is as m, by all calls.
func agrees(t *testing.T, m model, s api.State) {
	t.Helper()
	if got, want := cases.Text(m.x, s), m.text(); got != want {
		t.Errorf("Text of %v: %s; not %s", s, got, want)
	}
	readies(t, m.x, s, m.ready()...)
	if !cases.Fits(m.x, s) {
		t.Errorf("%v does not fit", s)
	}
	for _, r := range m.x.Stages {
		want := api.NoStage
		if slices.Contains(m.ready(), r.Name) {
			want = api.OK
		}
		if _, _, why := cases.Apply(m.x, s, fire(r.Name)); why != want {
			t.Errorf("Fire %s of %v: %d; not %d", r.Name, s, why, want)
		}
	}
}

// keeps looks whether all that is done and got in s is so in n.
func keeps(t *testing.T, x api.Type, s, n api.State) {
	t.Helper()
	for i, done := range s.Done {
		if done && !n.Done[i] {
			t.Errorf("%s is done no more: %v, %v", x.Stages[i].Name, s, n)
		}
	}
	for i, got := range s.Got {
		if got && !n.Got[i] {
			t.Errorf("%s is got no more: %v, %v", x.Marks[i].Name, s, n)
		}
	}
}

// Long rows of operations over many types, each of them also held against the model.
func TestP14_4_SeededRows(t *testing.T) {
	r := rand.New(rand.NewSource(141))
	counts := map[api.Errno]int{}
	for range 1500 {
		x := seeded(t, r)
		m, s := modelNew(x), cases.New(x)
		agrees(t, m, s)
		for range 40 {
			o := seededOp(r, x, s)
			n, text, why := cases.Apply(x, s, o)
			if wantText, want := m.apply(o); why != want || text != wantText {
				t.Fatalf("%s: %v of %v: %q, %d; not %q, %d", schema.Write(x), o, s, text, why, wantText, want)
			}
			counts[why]++
			if why == api.OK {
				keeps(t, x, s, n)
				s = n
			} else if told(n) != nothing {
				t.Errorf("%v of %v: %v beside %d", o, s, n, why)
			}
			agrees(t, m, s)
			if t.Failed() {
				t.Fatalf("%v: %s", o, schema.Write(x))
			}
		}
	}
	for _, why := range []api.Errno{api.OK, api.ErrArg, api.NoName, api.NoStage, api.Bound} {
		if counts[why] < 1000 {
			t.Errorf("%d came %d times only", why, counts[why])
		}
	}
}

// A mark stays got, a stage done, though its guard has become 0.
func TestP14_4_StaysThoughItsGuardIsZero(t *testing.T) {
	x := typed(t, "type a; attr n 0 0 9; stage s n; stage u not s; mark m eq n 3; mark k not s")
	s := goes(t, x, cases.New(x), set("n", 3), "a n=3 *m *k")
	s = goes(t, x, s, set("n", 2), "a n=2 *m *k")
	s = goes(t, x, s, fire("u"), "a n=2 +u *m *k")
	s = goes(t, x, s, fire("s"), "a n=2 +s +u *m *k")
	s = goes(t, x, s, add("n", -2), "a n=0 +s +u *m *k")
	s = goes(t, x, s, add("n", 0), "a n=0 +s +u *m *k")
	refused(t, x, s, fire("s"), api.NoStage)
	refused(t, x, s, fire("u"), api.NoStage)
}

// What is settled stays as it is when nothing is turned.
func TestP14_4_SettledOnce(t *testing.T) {
	r := rand.New(rand.NewSource(142))
	for range 2000 {
		x := seeded(t, r)
		s := cases.New(x)
		for i, a := range x.Attrs {
			for _, o := range []api.Op{set(a.Name, s.Vals[i]), add(a.Name, 0)} {
				if n, _, why := cases.Apply(x, s, o); why != api.OK || told(n) != told(s) {
					t.Fatalf("%v of %v: %v, %d", o, s, n, why)
				}
			}
		}
	}
}
