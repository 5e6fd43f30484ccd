package schema_test

import (
	"math/rand"
	"regexp"
	"slices"
	"strconv"
	"strings"
	"testing"

	"conclave/api"
	"conclave/guard"
	"conclave/schema"
)

// The chapter by other means: parts by patterns, refusals by a list of all that apply.
var (
	aType       = regexp.MustCompile(`(?s)^ *type +([^ ]+) *$`)
	anAttr      = regexp.MustCompile(`(?s)^ *attr +([^ ]+) +(-?[0-9]{1,4}) +(-?[0-9]{1,4}) +(-?[0-9]{1,4}) *$`)
	aRule       = regexp.MustCompile(`(?s)^ *(stage|mark) +([^ ]+) +([^ ]|[^ ].*[^ ]) *$`)
	aName       = regexp.MustCompile(`^[a-z]{1,12}$`)
	aWordOfOurs = regexp.MustCompile(`^(not|and|or|lt|eq|add|sub|type|attr|stage|mark)$`)
)

func modelName(s string) bool { return aName.MatchString(s) && !aWordOfOurs.MatchString(s) }

func modelRight(x api.Type) api.Errno {
	var all []api.Errno
	say := func(why api.Errno, applies bool) {
		if applies {
			all = append(all, why)
		}
	}
	seen := map[string]int{}
	named := func(n string) {
		seen[n]++
		say(api.ErrName, !modelName(n))
		say(api.ErrTaken, seen[n] > 1)
	}
	say(api.ErrName, !modelName(x.Name))
	say(api.ErrMany, len(x.Attrs) > 6 || len(x.Stages) > 6 || len(x.Marks) > 6)
	for _, a := range x.Attrs {
		named(a.Name)
		say(api.ErrRange, !slices.IsSorted([]int{-1000, a.Lo, a.Start, a.Hi, 1000}))
	}
	both := append(slices.Clone(x.Stages), x.Marks...)
	for _, r := range both {
		named(r.Name)
	}
	names := schema.Names(x)
	for _, r := range both {
		why, _ := guard.Check(r.Guard, names)
		say(why, why != api.OK)
	}
	return append(all, api.OK)[0]
}

func modelRead(s string) (api.Type, api.Errno, int) {
	var x api.Type
	at := 0
	for i, part := range strings.Split(s, ";") {
		name, attr, rule := aType.FindStringSubmatch(part), anAttr.FindStringSubmatch(part), aRule.FindStringSubmatch(part)
		switch {
		case i == 0 && name != nil:
			x.Name = name[1]
		case i > 0 && attr != nil:
			start, _ := strconv.Atoi(attr[2])
			lo, _ := strconv.Atoi(attr[3])
			hi, _ := strconv.Atoi(attr[4])
			x.Attrs = append(x.Attrs, api.Attr{Name: attr[1], Start: start, Lo: lo, Hi: hi})
		case i > 0 && rule != nil && rule[1] == "stage":
			x.Stages = append(x.Stages, api.Rule{Name: rule[2], Guard: rule[3]})
		case i > 0 && rule != nil:
			x.Marks = append(x.Marks, api.Rule{Name: rule[2], Guard: rule[3]})
		default:
			return api.Type{}, api.ErrForm, at
		}
		at += len(part) + 1
	}
	if why := modelRight(x); why != api.OK {
		return api.Type{}, why, 0
	}
	return x, api.OK, 0
}

func modelWrite(x api.Type) string {
	parts := []string{"type " + x.Name}
	for _, a := range x.Attrs {
		parts = append(parts, strings.Join([]string{"attr", a.Name, strconv.Itoa(a.Start), strconv.Itoa(a.Lo), strconv.Itoa(a.Hi)}, " "))
	}
	for _, r := range x.Stages {
		parts = append(parts, "stage "+r.Name+" "+r.Guard)
	}
	for _, r := range x.Marks {
		parts = append(parts, "mark "+r.Name+" "+r.Guard)
	}
	return strings.Join(parts, "; ")
}

// agrees looks whether Read answers of s what the model does.
func agrees(t *testing.T, s string) api.Errno {
	t.Helper()
	x, why, at := modelRead(s)
	if why != api.OK {
		noType(t, s, why, at)
		return why
	}
	reads(t, s, x)
	return why
}

// longer answers rows with one piece more behind each.
func longer(rows, pieces []string) []string {
	var all []string
	for _, row := range rows {
		for _, p := range pieces {
			all = append(all, row+p)
		}
	}
	return all
}

func TestP13_2_AllRowsOfWords(t *testing.T) {
	words := []string{" type", " attr", " stage", " mark", " a", " -1", " 1", ";", " ?"}
	rows := []string{""}
	for range 4 {
		rows = longer(rows, words)
		for _, row := range rows {
			agrees(t, row)
			agrees(t, "type a;"+row)
			agrees(t, "type a; attr b"+row)
			agrees(t, "type a; mark b"+row+"; stage c b ")
		}
		if t.Failed() {
			return
		}
	}
}

// All short rows of bytes of each kind.
func TestP13_2_AllRowsOfBytes(t *testing.T) {
	bytes := []string{"a", "1", "-", " ", ";", "?"}
	rows := []string{""}
	for range 5 {
		rows = longer(rows, bytes)
		for _, row := range rows {
			agrees(t, row)
			agrees(t, "type"+row)
			agrees(t, "type a"+row)
			agrees(t, "type a;"+row+"mark b 1")
			agrees(t, "type a;mark"+row)
			agrees(t, "type a;stage b"+row)
			agrees(t, "type a;attr b 0"+row+" 1")
			agrees(t, "type a;attr b -1 -1"+row)
		}
		if t.Failed() {
			return
		}
	}
}

// grown answers a guard over names, most often a right one.
func grown(r *rand.Rand, names []string, deep int) string {
	gap := strings.Repeat(" ", 1+r.Intn(6)/5)
	switch k := r.Intn(8); {
	case deep == 0 || k < 2:
		return strconv.Itoa(r.Intn(40) - 20)
	case k < 5 && len(names) > 0:
		return names[r.Intn(len(names))]
	case k == 5:
		return "not" + gap + grown(r, names, deep-1)
	}
	op := []string{"and", "or", "lt", "eq", "add", "sub"}[r.Intn(6)]
	return op + gap + grown(r, names, deep-1) + gap + grown(r, names, deep-1)
}

// seeded answers a type of any number of items, Right as long as it has no more than it may.
func seeded(r *rand.Rand) api.Type {
	x := api.Type{Name: many('w', 5)[r.Intn(5)]}
	for _, n := range many('x', r.Intn(8)) {
		at := []int{r.Intn(2001) - 1000, r.Intn(2001) - 1000, r.Intn(2001) - 1000}
		slices.Sort(at)
		x.Attrs = append(x.Attrs, api.Attr{Name: n, Lo: at[0], Start: at[1], Hi: at[2]})
	}
	x.Stages, x.Marks = rules(many('y', r.Intn(7)+r.Intn(2))...), rules(many('z', r.Intn(7)+r.Intn(2))...)
	all := schema.Names(x)
	for k := range len(x.Stages) + len(x.Marks) {
		x = guarded(x, k, grown(r, all, r.Intn(4)))
	}
	return x
}

// spoilt answers x with one thing changed, most often to something that is wrong.
func spoilt(r *rand.Rand, x api.Type) api.Type {
	words := append(badNames()[:3], "A", "x;", "zz", "xa", "ya", "za", "1", "not", "", " ", "xa ", "-1001", "1 1")
	w := words[r.Intn(len(words))]
	items := len(schema.Names(x))
	switch k := r.Intn(4); {
	case k == 0 && len(x.Attrs) > 0:
		x.Attrs = slices.Clone(x.Attrs)
		a := &x.Attrs[r.Intn(len(x.Attrs))]
		*[]*int{&a.Start, &a.Lo, &a.Hi}[r.Intn(3)] += []int{1, -1, 1000, -1000, 20000}[r.Intn(5)]
	case k == 1 && items > 0:
		return called(x, r.Intn(items), w)
	case k == 2 && items > len(x.Attrs):
		return guarded(x, r.Intn(items-len(x.Attrs)), w)
	case k == 3 && r.Intn(8) == 0:
		x.Name = w
	}
	return x
}

func TestP13_SeededTypes(t *testing.T) {
	r := rand.New(rand.NewSource(131))
	told := map[api.Errno]int{}
	for range 40000 {
		x := seeded(r)
		for r.Intn(2) == 0 {
			x = spoilt(r, x)
		}
		why := modelRight(x)
		told[why]++
		judged(t, x, why)
		writes(t, x, modelWrite(x))
		agrees(t, schema.Write(x))
		if legible(x) && why == api.OK {
			back(t, x)
		}
		if t.Failed() {
			return
		}
	}
	for _, why := range []api.Errno{api.OK, api.ErrName, api.ErrMany, api.ErrTaken, api.ErrRange, api.ErrForm, api.ErrTail, api.ErrEnd} {
		if told[why] < 100 {
			t.Errorf("%d came %d times only", why, told[why])
		}
	}
}

// Texts that are spoilt as bytes.
func TestP13_2_SeededTexts(t *testing.T) {
	r := rand.New(rand.NewSource(132))
	told := map[api.Errno]int{}
	for range 40000 {
		b := []byte(schema.Write(seeded(r)))
		for r.Intn(3) > 0 {
			k := r.Intn(len(b))
			switch r.Intn(4) {
			case 0:
				b[k] = " ;ax1-?\t"[r.Intn(8)]
			case 1:
				b = slices.Insert(b, k, " ;ax1-?\x00"[r.Intn(8)])
			case 2:
				b = slices.Insert(b, k, ' ', ' ')
			default:
				b = append(slices.Delete(b, k, k+1), ' ')
			}
		}
		told[agrees(t, string(b))]++
		if t.Failed() {
			return
		}
	}
	for _, why := range []api.Errno{api.OK, api.ErrForm, api.ErrMany, api.ErrName} {
		if told[why] < 100 {
			t.Errorf("%d came %d times only", why, told[why])
		}
	}
}
