package audit_test

import (
	"slices"
	"testing"

	"conclave/audit"
	"conclave/chain"
)

// turned answers c with one bit of its byte k turned.
func turned(c audit.Claim, k int) audit.Claim {
	c.Bytes = slices.Clone(c.Bytes)
	c.Bytes[k] ^= 1
	return c
}

// sizeOf answers how many bytes a chain of these records has.
func sizeOf(l ...rec) int { return len(claim(0, l...).Bytes) }

func TestP20_2_NothingWrong(t *testing.T) {
	p, c, a := prepare("t", 0, 1), commit("t", 0, 1), abort("t", 0, 1)
	verified(t, "claims without records", none(), claim(0), claim(1), claim(0))
	verified(t, "any Groups of claims", none(), claim(7, once("x")), claim(-1, p), claim(1<<40, a))
	verified(t, "unlike claims of unlike Groups", none(), claim(0, once("x")), claim(1, once("y")))
	verified(t, "a Commit in all", none(), claim(0, p, c), claim(1, once("y"), p, once("z"), c), claim(0, p), claim(0, p, c, once("w")))
	verified(t, "a Commit in one, a Prepare in another", none(), claim(0, p, c), claim(1, p))
	verified(t, "an Abort without a Prepare", none(), claim(0, a), claim(1, p, a))
	verified(t, "an Abort of Groups without the claim's", none(), claim(2, p, a))
	verified(t, "Aborts with other Groups", none(), claim(0, p, a), claim(1, abort("t", 0)))
	verified(t, "Prepares twice, with other Groups and behind the outcome", none(), claim(0, prepare("t", 2), p, c, prepare("t", 1)))
	verified(t, "two transactions", none(), claim(0, p, prepare("u", 0), abort("u", 0), c), claim(1, p, abort("u", 0), c))
	verified(t, "the same Once again and again", none(), claim(0, once("x"), once("x"), once("x")), claim(1, once("x")))
	verified(t, "an Abort, then a Prepare", none(), claim(0, a, p, a))
}

func TestP20_2_Rule1(t *testing.T) {
	x, p := once("x"), prepare("t", 0, 1)
	good := claim(0, x, p)
	verified(t, "no bytes", broken(1, 0, 0), audit.Claim{})
	verified(t, "bytes that end", broken(1, 1, 3), good, audit.Claim{Group: 1, Bytes: []byte{0, 0, 0}})
	verified(t, "too many links", broken(1, 0, 0), audit.Claim{Bytes: []byte("\xff\xff\xff\xff")})
	verified(t, "a byte too many", broken(1, 2, len(good.Bytes)), good, good, audit.Claim{Bytes: append(slices.Clone(good.Bytes), 0)})
	verified(t, "a Head that is wrong", broken(1, 1, sizeOf(x)), claim(0, x), turned(good, len(good.Bytes)-1))
	verified(t, "a Text that is turned", broken(1, 0, 4), turned(good, 8))
	verified(t, "two such claims", broken(1, 0, sizeOf(x)), turned(good, len(good.Bytes)-1), turned(good, 8))
}

func TestP20_2_Rule2(t *testing.T) {
	x := audit.Text(once("x"))
	for _, wrong := range []string{"", "rubbish", x + "\x00", x[:len(x)-1], audit.Text(commit("")), audit.Text(commit("t", 3))} {
		verified(t, "the first record", broken(2, 0, 0), ofTexts(0, wrong, x))
		verified(t, "the last record", broken(2, 1, 2), ofTexts(0, x), ofTexts(1, x, x, wrong))
		verified(t, "two records, two claims", broken(2, 1, 1), ofTexts(0), ofTexts(0, x, wrong, x, wrong), ofTexts(0, wrong))
	}
}

func TestP20_2_Rule3(t *testing.T) {
	x, y, z := once("x"), once("y"), once("z")
	verified(t, "the first Link", broken(3, 1, 0), claim(0, x), claim(0, y))
	verified(t, "a Link between", broken(3, 1, 1), claim(0, x, y, z), claim(0, x, z, z))
	verified(t, "behind a claim of another Group", broken(3, 2, 1), claim(0, x, y), claim(1, z), claim(0, x, z))
	verified(t, "behind two that agree, like the shorter one", broken(3, 2, 2), claim(0, x, y, z), claim(0, x, y), claim(0, x, y, x))
	verified(t, "behind two that agree, the longer one last", broken(3, 2, 2), claim(0, x), claim(0, x, y, z), claim(0, x, y, x))
	verified(t, "behind one without records", broken(3, 2, 0), claim(0), claim(0, x), claim(0, y))
	verified(t, "longer than all, unlike one between", broken(3, 2, 1), claim(0, x), claim(0, x, y), claim(0, x, z, z, z, z))
	verified(t, "the first claim of two", broken(3, 1, 1), claim(0, x, y), claim(0, x, z), claim(0, z))
	verified(t, "Groups that are none", broken(3, 1, 0), claim(-5, x), claim(-5, y))
	verified(t, "each Group by itself", broken(3, 3, 1), claim(0, x, x), claim(1, y, y), claim(0, x, x, x), claim(1, y, x))
}

func TestP20_2_Rule4(t *testing.T) {
	p, c, a := prepare("t", 0, 1), commit("t", 0, 1), abort("t", 0, 1)
	u, v := prepare("u", 0), commit("u", 0)
	verified(t, "Commit twice", broken(4, 0, 2), claim(0, p, c, c))
	verified(t, "Commit behind Abort", broken(4, 0, 2), claim(0, p, a, c))
	verified(t, "Abort behind Commit", broken(4, 0, 2), claim(0, p, c, a))
	verified(t, "Commit behind Abort and Abort", broken(4, 0, 3), claim(0, p, a, a, c))
	verified(t, "far behind", broken(4, 0, 5), claim(0, p, c, once("x"), u, v, c))
	verified(t, "prepared again between", broken(4, 0, 3), claim(0, p, c, p, c))
	verified(t, "with other Groups", broken(4, 0, 2), claim(0, p, c, commit("t", 0)))
	verified(t, "the second claim", broken(4, 1, 1), claim(0, p, c), claim(1, a, c))
}

func TestP20_2_Rule5(t *testing.T) {
	p, c, a := prepare("t", 0, 1), commit("t", 0, 1), abort("t", 0, 1)
	u, v := prepare("u", 0), commit("u", 0)
	verified(t, "Commit, Abort", broken(5, 0, 1), claim(0, p, c), claim(1, p, a))
	verified(t, "Abort, Commit", broken(5, 0, 0), claim(0, a), claim(1, p, c))
	verified(t, "a claim ahead that tells no outcome", broken(5, 1, 3), claim(0, p), claim(1, once("x"), u, p, c), claim(2, p, a))
	verified(t, "Abort with other Groups", broken(5, 0, 1), claim(0, p, c), claim(1, abort("t", 2)))
	verified(t, "of two transactions", broken(5, 0, 3), claim(0, p, u, c, v), claim(1, p, c, abort("u", 0)))
}

func TestP20_2_Rule6(t *testing.T) {
	p, c := prepare("t", 0, 1), commit("t", 0, 1)
	verified(t, "no Prepare", broken(6, 0, 0), claim(0, c))
	verified(t, "the Prepare of another", broken(6, 0, 1), claim(0, prepare("u", 0), c))
	verified(t, "the Prepare behind", broken(6, 0, 0), claim(0, c, p))
	verified(t, "the Prepare in another claim", broken(6, 1, 1), claim(0, p, c), claim(1, once("x"), c))
	verified(t, "the second of two", broken(6, 0, 2), claim(0, p, c, commit("u", 0), commit("v", 0)))
	verified(t, "a name that the Prepare's begins with", broken(6, 0, 1), claim(0, prepare("tt", 0), c))
}

func TestP20_2_Rule7(t *testing.T) {
	p, c := prepare("t", 0, 1), commit("t", 0, 1)
	verified(t, "other Groups", broken(7, 0, 1), claim(0, p, c), claim(1, p, commit("t", 1)))
	verified(t, "other Groups, more of them", broken(7, 0, 1), claim(0, p, c), claim(1, p, commit("t", 0, 1, 2)))
	verified(t, "other Groups, as many", broken(7, 0, 2), claim(0, once("x"), p, c), claim(1, p, commit("t", 1, 2)))
	verified(t, "other Groups in the third", broken(7, 0, 1), claim(0, p, c), claim(1, p, c), claim(2, p, commit("t", 0, 1, 2)))
	verified(t, "no Groups at all", broken(7, 0, 1), claim(0, p, commit("t")))
	verified(t, "none of its Groups", broken(7, 0, 1), claim(2, p, c))
	verified(t, "none of its Groups, the second claim", broken(7, 1, 1), claim(0, p, c), claim(2, p, c))
	verified(t, "a Group that is none", broken(7, 0, 1), claim(-1, p, c))
	verified(t, "a Group that is one in its lowest bits alone", broken(7, 0, 1), claim(256, p, c))
	verified(t, "the second Commit", broken(7, 0, 3), claim(0, p, c, prepare("u", 1), commit("u", 1)))
	verified(t, "the Prepare's Groups are not asked", none(), claim(0, prepare("t", 2), c))
}

// Each claim breaks its rule alone; of two claims that break one, the lesser rule is told, also of the later claim.
func TestP20_2_LeastRuleFirst(t *testing.T) {
	p, c, a := prepare("t", 0, 1), commit("t", 0, 1), abort("t", 0, 1)
	whole := claim(0, p, c)
	faults := []struct {
		rule int
		l    []audit.Claim
	}{
		{1, []audit.Claim{turned(whole, 8)}},
		{2, []audit.Claim{ofTexts(0, "rubbish")}},
		{3, []audit.Claim{claim(9, once("x")), claim(9, once("y"))}},
		{4, []audit.Claim{claim(0, prepare("four", 0), commit("four", 0), commit("four", 0))}},
		{5, []audit.Claim{claim(0, prepare("five", 0), commit("five", 0)), claim(1, abort("five", 0))}},
		{6, []audit.Claim{claim(0, commit("six", 0))}},
		{7, []audit.Claim{claim(2, p, c)}},
	}
	for _, x := range faults {
		f, ok := audit.Verify(x.l)
		if ok || f.Rule != x.rule {
			t.Errorf("rule %d alone: %v, %v", x.rule, f, ok)
		}
	}
	verified(t, "1 behind 2 to 7", broken(1, 4, 4), ofTexts(0, "rubbish"), claim(0, a, c), claim(1, c, c), claim(2, c), turned(whole, 8))
	verified(t, "2 behind 3 to 7", broken(2, 3, 1), claim(1, p, a), claim(1, c, c), claim(2, c), ofTexts(0, audit.Text(p), "rubbish"))
	verified(t, "3 behind 4 to 7", broken(3, 2, 0), claim(0, c, c), claim(2, a), claim(0, a))
	verified(t, "4 behind 5 to 7", broken(4, 1, 1), claim(2, c), claim(0, a, c))
	verified(t, "5 behind 6 and 7", broken(5, 1, 0), claim(2, commit("u", 0)), claim(0, c), claim(1, a))
	verified(t, "6 behind 7", broken(6, 1, 0), claim(2, p, c), claim(0, c))
}

// Under one rule the lesser claim is told ahead of the lesser place.
func TestP20_2_LeastClaimNext(t *testing.T) {
	x, p, c := once("x"), prepare("t", 0, 1), commit("t", 0, 1)
	verified(t, "rule 1", broken(1, 0, sizeOf(x)), turned(claim(0, x, p), sizeOf(x)+4), audit.Claim{})
	verified(t, "rule 2", broken(2, 0, 1), ofTexts(0, audit.Text(x), "rubbish"), ofTexts(0, "rubbish"))
	verified(t, "rule 3", broken(3, 1, 1), claim(0, x, x), claim(0, x, p), claim(0, p))
	verified(t, "rule 4", broken(4, 0, 3), claim(0, x, p, c, c), claim(1, c, c))
	verified(t, "rule 5", broken(5, 0, 2), claim(0, x, p, c), claim(1, abort("t", 0)))
	verified(t, "rule 6", broken(6, 0, 1), claim(0, x, c), claim(1, c))
	verified(t, "rule 7", broken(7, 0, 2), claim(0, x, p, c), claim(1, p, commit("t", 1)))
}

func TestP20_3_Outcomes(t *testing.T) {
	p, c, a := prepare("t", 0, 1), commit("t", 0, 1), abort("t", 0, 1)
	for _, x := range []struct {
		what string
		l    []audit.Claim
		tx   string
		want []int
	}{
		{"nothing", nil, "t", nil},
		{"a Prepare alone", []audit.Claim{claim(0, p)}, "t", nil},
		{"a Commit", []audit.Claim{claim(0, p, c)}, "t", []int{1}},
		{"an Abort", []audit.Claim{claim(0, p, a)}, "t", []int{2}},
		{"another Tx", []audit.Claim{claim(0, p, c)}, "u", nil},
		{"a Tx that begins with it", []audit.Claim{claim(0, commit("tt", 0))}, "t", nil},
		{"no Tx", []audit.Claim{claim(0, once("x"), p, c)}, "", nil},
		{"each once", []audit.Claim{claim(0, c, c), claim(1, c), claim(1, c)}, "t", []int{1}},
		{"each Abort once", []audit.Claim{claim(0, a, a), claim(1, a)}, "t", []int{2}},
		{"rising in one claim", []audit.Claim{claim(0, a, c)}, "t", []int{1, 2}},
		{"rising in two", []audit.Claim{claim(0, a), claim(0, c)}, "t", []int{1, 2}},
		{"rising anyway", []audit.Claim{claim(0, c), claim(1, a)}, "t", []int{1, 2}},
		{"any Groups", []audit.Claim{claim(-7, commit("t"))}, "t", []int{1}},
		{"a claim that is refused", []audit.Claim{turned(claim(0, c, once("x")), sizeOf(c)+4)}, "t", nil},
		{"a claim beside one that is refused", []audit.Claim{turned(claim(0, c), 8), claim(0, a)}, "t", []int{2}},
		{"behind a record that is not read", []audit.Claim{ofTexts(0, "rubbish", audit.Text(c), "")}, "t", []int{1}},
		{"a record that is not read", []audit.Claim{ofTexts(0, audit.Text(commit("t", 3)), audit.Text(c)+"x", audit.Text(a))}, "t", []int{2}},
	} {
		if got := audit.Outcomes(x.l, x.tx); !slices.Equal(got, x.want) {
			t.Errorf("%s: %v, not %v", x.what, got, x.want)
		}
	}
}

// What a chain may hold at most, and many claims, are looked at in little time.
func TestP20_2_LongChains(t *testing.T) {
	texts := make([]string, 4096)
	for k := range texts {
		texts[k] = audit.Text(once("x"))
	}
	texts[0], texts[4095] = audit.Text(prepare("t", 0, 1)), audit.Text(commit("t", 0, 1))
	verified(t, "4096 records", none(), ofTexts(0, texts...), ofTexts(1, texts...), ofTexts(0, texts[:4000]...))
	verified(t, "the last one unlike", broken(3, 1, 4095), ofTexts(0, texts...), ofTexts(0, append(texts[:4095:4095], texts[1])...))
	verified(t, "the last one of no such Group", broken(7, 1, 4095), ofTexts(0, texts...), ofTexts(2, texts...))
	verified(t, "a record too many", broken(1, 0, 0), audit.Claim{Bytes: chain.Encode(chain.Make(append(texts, "")))})
}

func TestP20_2_ManyClaims(t *testing.T) {
	one := claim(0, prepare("t", 0, 1), commit("t", 0, 1))
	l := slices.Repeat([]audit.Claim{one}, 20000)
	verified(t, "one claim again and again", none(), l...)
	verified(t, "the last one aborts", broken(5, 0, 1), append(l, claim(1, abort("t", 0)))...)
	verified(t, "the last one has other Groups", broken(7, 0, 1), append(l, claim(1, prepare("t", 0), commit("t", 1)))...)
	if got := audit.Outcomes(l, "t"); !slices.Equal(got, []int{1}) {
		t.Errorf("Outcomes: %v", got)
	}
	for k := range l {
		l[k].Group = k
	}
	verified(t, "as many Groups", broken(7, 2, 1), l...)
}
