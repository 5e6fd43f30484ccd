package audit_test

import (
	"fmt"
	"slices"
	"strings"
	"testing"

	"conclave/api"
	"conclave/audit"
	"conclave/chain"
	"conclave/shard"
)

type rec = audit.Rec

func once(body string) rec { return rec{Kind: shard.Once, Groups: []int{0}, Body: body} }

func prepare(tx string, groups ...int) rec { return rec{Kind: shard.Prepare, Tx: tx, Groups: groups} }

func commit(tx string, groups ...int) rec { return rec{Kind: shard.Commit, Tx: tx, Groups: groups} }

func abort(tx string, groups ...int) rec { return rec{Kind: shard.Abort, Tx: tx, Groups: groups} }

// ofTexts answers a claim of these records, readable or not.
func ofTexts(group int, texts ...string) audit.Claim {
	return audit.Claim{Group: group, Bytes: chain.Encode(chain.Make(texts))}
}

func claim(group int, l ...rec) audit.Claim {
	texts := make([]string, len(l))
	for k, r := range l {
		texts[k] = audit.Text(r)
	}
	return ofTexts(group, texts...)
}

// verified looks whether Verify answers that fault of l; the zero one is none.
func verified(t *testing.T, what string, want audit.Fault, l ...audit.Claim) {
	t.Helper()
	f, ok := audit.Verify(l)
	if f != want || ok != (want == audit.Fault{}) {
		t.Errorf("%s: %v, %v; not %v", what, f, ok, want)
	}
}

func broken(rule, claim, at int) audit.Fault {
	return audit.Fault{Rule: rule, Claim: claim, At: at}
}

func none() audit.Fault { return audit.Fault{} }

func TestP20_Runs(t *testing.T) {
	verified(t, "nothing", none())
	f, ok := audit.Verify([]audit.Claim{claim(0, commit("t", 0, 1)), claim(1, abort("t", 0, 1))})
	if ok || f.Rule != 5 && f.Rule != 6 {
		t.Errorf("Commit t, Abort t: %v, %v", f, ok)
	}
}

func TestP20_Examples(t *testing.T) {
	p, a := prepare("t", 0), abort("t", 0)
	verified(t, "the second ends earlier", none(), claim(0, once("x"), once("y")), claim(0, once("x")))
	verified(t, "the first ends earlier", none(), claim(0, once("x")), claim(0, once("x"), once("y")))
	verified(t, "one has no record", none(), claim(0, once("x")), claim(0))
	verified(t, "two Aborts in one claim", none(), claim(0, p, a, a))
	verified(t, "two Aborts in two claims", none(), claim(0, p, a), claim(1, a))
}

func TestP20_1_Text(t *testing.T) {
	for _, x := range []struct {
		r    rec
		want string
	}{
		{rec{}, "\x00\x00\x00\x00\x00\x00\x00\x00\x00\x00"},
		{once(""), "\x01\x00\x00\x00\x00\x01\x00\x00\x00\x00\x00"},
		{rec{Kind: shard.Once, Body: "body"}, "\x01\x00\x00\x00\x00\x00\x00\x00\x00\x04body"},
		{prepare("tx", 0, 1, 2), "\x02\x00\x00\x00\x02tx\x03\x00\x01\x02\x00\x00\x00\x00"},
		{rec{Kind: shard.Commit, Tx: "\x00\xff", Groups: []int{2}, Body: "\x01"}, "\x03\x00\x00\x00\x02\x00\xff\x01\x02\x00\x00\x00\x01\x01"},
		{abort("t"), "\x04\x00\x00\x00\x01t\x00\x00\x00\x00\x00"},
	} {
		if got := audit.Text(x.r); got != x.want {
			t.Errorf("Text(%v): %q, not %q", x.r, got, x.want)
		}
	}
}

// Numbers that no Byte holds are written as wire writes them.
func TestP20_1_TextOfAnyRec(t *testing.T) {
	many := make([]int, 258)
	many[0], many[257] = 513, -1
	if got, want := audit.Text(rec{Kind: -1, Groups: many}), "\xff\x00\x00\x00\x00\x02\x01"+strings.Repeat("\x00", 256)+"\xff\x00\x00\x00\x00"; got != want {
		t.Errorf("258 Groups: %q, not %q", got, want)
	}
	long := strings.Repeat("x", 70000)
	if got, want := audit.Text(rec{Kind: 259, Tx: long, Body: long}), "\x03\x00\x01\x11\x70"+long+"\x00\x00\x01\x11\x70"+long; got != want {
		t.Errorf("texts of 70000 bytes: %d bytes, not %d", len(got), len(want))
	}
}

// readable answers Recs that Read is to take back.
func readable() []rec {
	long := strings.Repeat("l", 4000)
	var all []rec
	for _, groups := range [][]int{nil, {0}, {1}, {2}, {0, 1}, {0, 2}, {1, 2}, {0, 1, 2}} {
		for _, body := range []string{"", "b", "\x00\xff", "\x01\x00\x00\x00\x00\x00\x00\x00\x00\x00", long} {
			all = append(all, rec{Kind: shard.Once, Groups: groups, Body: body})
			for _, tx := range []string{"t", "\x00", "\xff\xfe", "tx with blanks", long} {
				for _, kind := range []int{shard.Prepare, shard.Commit, shard.Abort} {
					all = append(all, rec{Kind: kind, Tx: tx, Groups: groups, Body: body})
				}
			}
		}
	}
	return all
}

func same(a, b rec) bool {
	return a.Kind == b.Kind && a.Tx == b.Tx && slices.Equal(a.Groups, b.Groups) && a.Body == b.Body
}

func TestP20_1_ReadOfText(t *testing.T) {
	seen := map[string]bool{}
	for _, r := range readable() {
		s := audit.Text(r)
		got, why := audit.Read(s)
		if why != api.OK || !same(got, r) {
			t.Fatalf("%.80q comes back as %.80q, %d", fmt.Sprint(r), fmt.Sprint(got), why)
		}
		if seen[s] {
			t.Fatalf("two Recs have the text %.80q", s)
		}
		seen[s] = true
	}
}

// refused looks whether Read answers ErrForm of s, and nothing beside it.
func refused(t *testing.T, what, s string) {
	t.Helper()
	if r, why := audit.Read(s); why != api.ErrForm || !same(r, rec{}) {
		t.Errorf("%s: %.80q, %d", what, fmt.Sprint(r), why)
	}
}

func TestP20_1_ReadRefuses(t *testing.T) {
	long := strings.Repeat("l", 4001)
	for _, x := range []struct {
		what string
		r    rec
	}{
		{"no Kind", rec{Tx: "t"}},
		{"no Kind and no Tx", rec{}},
		{"Freeze", rec{Kind: shard.Freeze, Tx: "t"}},
		{"Freeze without Tx", rec{Kind: shard.Freeze}},
		{"Leave", rec{Kind: shard.Leave, Tx: "t"}},
		{"Kind 255", rec{Kind: 255, Tx: "t"}},
		{"Once of a Tx", rec{Kind: shard.Once, Tx: "t"}},
		{"Prepare of none", prepare("", 0)},
		{"Commit of none", commit("", 0)},
		{"Abort of none", abort("", 0)},
		{"Groups that fall", commit("t", 1, 0)},
		{"a Group twice", commit("t", 1, 1)},
		{"Group 0 twice", prepare("t", 0, 0)},
		{"Group 0 at the end", abort("t", 1, 2, 0)},
		{"a Group beyond the last", commit("t", 3)},
		{"a Group of 255", commit("t", 0, 1, -1)},
		{"four Groups", commit("t", 0, 1, 2, 3)},
		{"Once of no such Group", rec{Kind: shard.Once, Groups: []int{3}}},
		{"Once of Groups that fall", rec{Kind: shard.Once, Groups: []int{2, 1}}},
		{"a Tx too long", commit(long, 0)},
		{"a Body too long", once(long)},
		{"255 Groups", rec{Kind: shard.Commit, Tx: "t", Groups: make([]int, 255)}},
	} {
		refused(t, x.what, audit.Text(x.r))
	}
	refused(t, "no bytes", "")
	refused(t, "a count of 256 Groups", audit.Text(rec{Kind: shard.Commit, Tx: "t", Groups: make([]int, 256)}))
	refused(t, "a Tx of 2^31 bytes", "\x03\x80\x00\x00\x00t\x00\x00\x00\x00\x00")
	refused(t, "a Body of 2^32 - 1 bytes", "\x03\x00\x00\x00\x01t\x00\xff\xff\xff\xff")
}

func TestP20_1_ReadOfCutAndLonger(t *testing.T) {
	for _, r := range []rec{once("x"), once(""), {Kind: shard.Once}, prepare("tx", 0, 1, 2), {Kind: shard.Abort, Tx: "t", Body: "abc"}} {
		s := audit.Text(r)
		for n := range s {
			refused(t, "cut", s[:n])
		}
		refused(t, "a byte more", s+"\x00")
		refused(t, "two of them", s+s)
	}
}
