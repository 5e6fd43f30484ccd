package audit_test

import (
	"encoding/binary"
	"math/rand"
	"slices"
	"testing"

	"conclave/api"
	"conclave/audit"
)

// numbers answers each byte of s.
func numbers(s string) []int {
	var all []int
	for _, b := range []byte(s) {
		all = append(all, int(b))
	}
	return all
}

// spelt takes a text behind its length off the front of s, and tells whether one of at most 4000 bytes stands there.
func spelt(s string) (text, rest string, ok bool) {
	if len(s) < 4 {
		return "", "", false
	}
	n := int64(binary.BigEndian.Uint32([]byte(s)))
	if s = s[4:]; n > 4000 || int64(len(s)) < n {
		return "", "", false
	}
	return s[:n], s[n:], true
}

// recOf answers what the chapter's words say of s: the Rec that Read is to answer, or false.
func recOf(s string) (rec, bool) {
	if s == "" || s[0] < 1 || s[0] > 4 {
		return rec{}, false
	}
	r := rec{Kind: int(s[0])}
	tx, s, ok := spelt(s[1:])
	if !ok || s == "" || (tx == "") != (r.Kind == 1) {
		return rec{}, false
	}
	n := int(s[0])
	if s = s[1:]; len(s) < n {
		return rec{}, false
	}
	r.Tx, r.Groups = tx, numbers(s[:n])
	choices := [][]int{nil, {0}, {1}, {2}, {0, 1}, {0, 2}, {1, 2}, {0, 1, 2}}
	if !slices.ContainsFunc(choices, func(l []int) bool { return slices.Equal(l, r.Groups) }) {
		return rec{}, false
	}
	body, s, ok := spelt(s[n:])
	if !ok || s != "" {
		return rec{}, false
	}
	r.Body = body
	return r, true
}

// tried looks whether Read answers of s what is foretold, and tells whether it takes it.
func tried(t *testing.T, s string) bool {
	t.Helper()
	got, why := audit.Read(s)
	want, ok := recOf(s)
	if !same(got, want) || why != api.OK && why != api.ErrForm || (why == api.OK) != ok {
		t.Fatalf("Read(%q): %v, %d; not %v, %v", s, got, why, want, ok)
	}
	if ok && audit.Text(got) != s {
		t.Fatalf("Read takes %q, which is Text of another Rec", s)
	}
	return ok
}

func TestP20_1_ReadOfEveryTurn(t *testing.T) {
	for _, r := range []rec{{Kind: 1}, once("x"), prepare("t", 0, 1, 2), commit("tx", 0, 2), {Kind: 4, Tx: "t", Groups: []int{1}, Body: "abc"}} {
		s := []byte(audit.Text(r))
		for k, was := range s {
			for n := range 256 {
				s[k] = byte(n)
				tried(t, string(s))
			}
			s[k] = was
		}
	}
}

// Every choice of the bytes that say what a Rec is, in texts of every length up to that of three Groups.
func TestP20_1_ReadOfEveryHead(t *testing.T) {
	taken := 0
	for kind := range 7 {
		for _, tx := range []string{"\x00", "\x01t", "\x01\x01", "\x02", "\x02tt", "\x03\x00\x00\x00"} {
			for count := range 5 {
				for three := range 4 * 4 * 4 {
					groups := string([]byte{byte(three / 16), byte(three / 4 % 4), byte(three % 4)})
					for n := range len(groups) + 1 {
						for _, body := range []string{"\x00", "\x01b", "\x02b", "\x00\x00"} {
							s := string([]byte{byte(kind)}) + "\x00\x00\x00" + tx + string([]byte{byte(count)}) + groups[:n] + "\x00\x00\x00" + body
							if tried(t, s) {
								taken++
							}
						}
					}
				}
			}
		}
	}
	if taken == 0 {
		t.Error("nothing is taken")
	}
}

func TestP20_1_ReadOfAnyBytes(t *testing.T) {
	r := rand.New(rand.NewSource(20))
	whole := readable()
	taken := 0
	for range 60000 {
		s := []byte(audit.Text(whole[r.Intn(len(whole))]))
		if len(s) > 100 && r.Intn(20) > 0 {
			continue
		}
		for range r.Intn(4) {
			k := r.Intn(len(s))
			switch r.Intn(5) {
			case 0:
				s = slices.Delete(s, k, k+1)
			case 1:
				s = slices.Insert(s, k, byte(r.Intn(6)))
			case 2:
				s[k] = byte(r.Intn(256))
			default:
				s[k] = byte(r.Intn(5))
			}
		}
		if tried(t, string(s)) {
			taken++
		}
	}
	if taken < 1000 {
		t.Errorf("only %d are taken", taken)
	}
}
