package chain_test

import (
	"bytes"
	"encoding/binary"
	"math/rand"
	"slices"
	"strings"
	"testing"

	"conclave/api"
	"conclave/chain"
)

// bytesOf answers the bytes of l behind that count, written apart from the program.
func bytesOf(count int, l []chain.Link) []byte {
	b := binary.BigEndian.AppendUint32(nil, uint32(count))
	for _, x := range l {
		b = binary.BigEndian.AppendUint32(b, uint32(len(x.Text)))
		b = append(b, x.Text...)
		b = append(b, x.Head[:]...)
	}
	return b
}

// placeOf answers where in its bytes Link k of l begins.
func placeOf(l []chain.Link, k int) int { return len(bytesOf(k, l[:k])) }

// foretold answers what the chapter's words say of b: what Decode is to answer.
func foretold(b []byte) ([]chain.Link, api.Errno, int) {
	if len(b) < 4 {
		return nil, api.ErrEnd, len(b)
	}
	n, at := binary.BigEndian.Uint32(b), 4
	if n > 4096 {
		return nil, api.ErrLong, 0
	}
	var all []chain.Link
	for range n {
		if len(b)-at < 4 {
			return nil, api.ErrEnd, len(b)
		}
		size := binary.BigEndian.Uint32(b[at:])
		if size > 4000 {
			return nil, api.ErrLong, at
		}
		if at += 4; len(b)-at < int(size)+32 {
			return nil, api.ErrEnd, len(b)
		}
		x := chain.Link{Text: string(b[at : at+int(size)])}
		at += int(size)
		at += copy(x.Head[:], b[at:])
		all = append(all, x)
	}
	if at < len(b) {
		return nil, api.ErrTail, at
	}
	var head [32]byte
	for k, x := range all {
		if head = headOf(head, x.Text); head != x.Head {
			return nil, api.ErrForm, placeOf(all, k)
		}
	}
	return all, api.OK, 0
}

// tried looks whether Decode answers of b what is foretold, and tells the refusal.
func tried(t *testing.T, what string, b []byte) api.Errno {
	t.Helper()
	l, why, at := chain.Decode(b)
	want, wantWhy, wantAt := foretold(b)
	if !slices.Equal(l, want) || why != wantWhy || at != wantAt {
		t.Fatalf("%s: Decode of %d bytes: %d links, %d at %d; not %d links, %d at %d", what, len(b), len(l), why, at, len(want), wantWhy, wantAt)
	}
	if why == api.OK && (chain.Check(l) != len(l) || !bytes.Equal(chain.Encode(l), b)) {
		t.Fatalf("%s: Decode takes what is no chain, or what Encode does not write", what)
	}
	return why
}

// refused looks whether Decode refuses b so.
func refused(t *testing.T, what string, b []byte, why api.Errno, at int) {
	t.Helper()
	if l, gotWhy, gotAt := chain.Decode(b); len(l) != 0 || gotWhy != why || gotAt != at {
		t.Errorf("%s: %d links, %d at %d; not %d at %d", what, len(l), gotWhy, gotAt, why, at)
	}
}

func TestP19_2_Encode(t *testing.T) {
	for _, texts := range rows() {
		l := linked(texts...)
		if got := chain.Encode(l); !bytes.Equal(got, bytesOf(len(l), l)) {
			t.Errorf("Encode of the chain of %q: %x", texts, got)
		}
	}
	if got := string(chain.Encode(nil)); got != "\x00\x00\x00\x00" {
		t.Errorf("Encode of nothing: %x", got)
	}
	l := []chain.Link{{Text: "ab", Head: [32]byte{0: 1, 31: 0xff}}}
	if got := string(chain.Encode(l)); got != "\x00\x00\x00\x01"+"\x00\x00\x00\x02ab"+"\x01"+strings.Repeat("\x00", 30)+"\xff" {
		t.Errorf("Encode of one Link: %x", got)
	}
}

// What is no chain is written too, and what Decode refuses.
func TestP19_2_EncodeOfAnyLinks(t *testing.T) {
	r := rand.New(rand.NewSource(4))
	seen := map[string][]chain.Link{}
	for range 20000 {
		l := anyLinks(r)
		b := chain.Encode(l)
		if !bytes.Equal(b, bytesOf(len(l), l)) {
			t.Fatalf("Encode of %v: %x", l, b)
		}
		if other, ok := seen[string(b)]; ok && !slices.Equal(l, other) {
			t.Fatalf("%v and %v have the same bytes", l, other)
		}
		seen[string(b)] = l
		tried(t, "any Links", b)
	}
	long := []chain.Link{{Text: strings.Repeat("x", 100000), Head: [32]byte{5}}}
	if !bytes.Equal(chain.Encode(long), bytesOf(1, long)) {
		t.Error("Encode of a long Text")
	}
	many := make([]chain.Link, 70000)
	if !bytes.Equal(chain.Encode(many), bytesOf(len(many), many)) {
		t.Error("Encode of many Links")
	}
}

func TestP19_2_DecodeOfEncode(t *testing.T) {
	for _, texts := range rows() {
		l := chain.Make(texts)
		b := chain.Encode(l)
		got, why, at := chain.Decode(b)
		if !slices.Equal(got, l) || why != api.OK || at != 0 || !slices.Equal(chain.Texts(got), texts) {
			t.Errorf("%q comes back as %q, %d at %d", texts, chain.Texts(got), why, at)
		}
		tried(t, "what Encode wrote", b)
	}
}

func TestP19_2_DecodeOfEveryText(t *testing.T) {
	every(4, []string{"", "a", "\x00\x00\x00\x01", "\xff"}, func(texts []string) {
		if tried(t, "a chain", chain.Encode(chain.Make(texts))) != api.OK {
			t.Fatalf("%q: refused", texts)
		}
	})
}

func TestP19_2_DecodeOfManyLinks(t *testing.T) {
	texts := make([]string, 4097)
	l := chain.Make(texts)
	if tried(t, "4096 links", chain.Encode(l[:4096])) != api.OK {
		t.Error("4096 links: refused")
	}
	refused(t, "4097 links", chain.Encode(l), api.ErrLong, 0)
	refused(t, "4097 links, but a byte", chain.Encode(l)[:len(chain.Encode(l))-1], api.ErrLong, 0)
	for _, count := range []string{"\x00\x00\x10\x01", "\x00\x01\x00\x00", "\x00\x10\x00\x00", "\x7f\xff\xff\xff", "\x80\x00\x00\x00", "\xff\xff\xff\xff"} {
		refused(t, "a count above 4096", []byte(count), api.ErrLong, 0)
		refused(t, "a count above 4096, and more", append([]byte(count), chain.Encode(l[:2])...), api.ErrLong, 0)
	}
	refused(t, "4096 links that are missing", []byte("\x00\x00\x10\x00"), api.ErrEnd, 4)
	l[4095].Head[0] ^= 1
	refused(t, "the last one wrong", chain.Encode(l[:4096]), api.ErrForm, 4+4095*36)
}

func TestP19_2_DecodeOfLongTexts(t *testing.T) {
	long := strings.Repeat("x", api.MaxRecord)
	if tried(t, "MaxRecord", chain.Encode(chain.Make([]string{long, "", long}))) != api.OK {
		t.Error("texts of MaxRecord: refused")
	}
	for _, more := range []int{1, 2, 96, 4000, 1 << 17} {
		longer := long + strings.Repeat("x", more)
		refused(t, "first", chain.Encode(chain.Make([]string{longer, "a"})), api.ErrLong, 4)
		refused(t, "behind", chain.Encode(chain.Make([]string{"abc", long, longer, longer})), api.ErrLong, 4+39+4036)
	}
	for _, size := range []string{"\x00\x00\x0f\xa1", "\x00\x01\x00\x00", "\x7f\xff\xff\xff", "\x80\x00\x00\x00", "\xff\xff\xff\xff"} {
		refused(t, "a length that is too much", []byte("\x00\x00\x00\x01"+size), api.ErrLong, 4)
	}
	refused(t, "a text of MaxRecord that is missing", []byte("\x00\x00\x00\x01\x00\x00\x0f\xa0"), api.ErrEnd, 8)
}

// Wrong Links are told where each begins, the first of them alone.
func TestP19_2_DecodeOfWrongLinks(t *testing.T) {
	for _, texts := range rows() {
		l := linked(texts...)
		for k := range l {
			head, text, rest := slices.Clone(l), slices.Clone(l), slices.Clone(l)
			head[k].Head[31] ^= 1
			text[k].Text = "turned"
			for n := k; n < len(rest); n++ {
				rest[n].Head = [32]byte{}
			}
			for what, x := range map[string][]chain.Link{"Head": head, "Text": text, "all behind": rest} {
				refused(t, what, chain.Encode(x), api.ErrForm, placeOf(x, k))
				tried(t, what, chain.Encode(x))
			}
		}
		if len(l) > 1 {
			refused(t, "without the first", chain.Encode(l[1:]), api.ErrForm, 4)
		}
	}
}

// What the Reader refuses goes ahead of Links that are wrong, wherever they stand.
func TestP19_2_DecodeOrderOfRefusals(t *testing.T) {
	wrong := linked("a", "b", "c")
	wrong[0].Head[3] ^= 1
	b := chain.Encode(wrong)
	refused(t, "wrong", b, api.ErrForm, 4)
	refused(t, "wrong, and a byte more", append(slices.Clone(b), 0), api.ErrTail, len(b))
	refused(t, "wrong, and itself behind", append(slices.Clone(b), b...), api.ErrTail, len(b))
	refused(t, "wrong, and a byte less", b[:len(b)-1], api.ErrEnd, len(b)-1)
	refused(t, "wrong, with a Link missing", bytesOf(4, wrong), api.ErrEnd, len(b))
	refused(t, "wrong, with too many Links", bytesOf(4097, wrong), api.ErrLong, 0)
	long := append(slices.Clone(wrong), chain.Link{Text: strings.Repeat("x", 4001)})
	refused(t, "wrong, with a long Text behind", chain.Encode(long), api.ErrLong, len(b))
	refused(t, "wrong, with a long Text behind that is cut off", chain.Encode(long)[:len(b)+9], api.ErrLong, len(b))
	refused(t, "wrong, with a long Text and a byte behind", append(chain.Encode(long), 0), api.ErrLong, len(b))
	right := chain.Encode(linked("a", "b", "c"))
	refused(t, "right, and a byte more", append(slices.Clone(right), 0), api.ErrTail, len(right))
	refused(t, "right, of fewer", bytesOf(2, linked("a", "b", "c")), api.ErrTail, 4+2*37)
	refused(t, "right, of none", bytesOf(0, linked("a", "b", "c")), api.ErrTail, 4)
}

func TestP19_2_DecodeOfMoreAndFewerBytes(t *testing.T) {
	refused(t, "nil", nil, api.ErrEnd, 0)
	refused(t, "no bytes", []byte{}, api.ErrEnd, 0)
	for _, texts := range rows() {
		l := linked(texts...)
		b := chain.Encode(l)
		for n := 0; n < len(b); n += 1 + len(b)/500 {
			refused(t, "cut off", b[:n], api.ErrEnd, n)
			tried(t, "from the middle", b[n:])
			tried(t, "one byte out", slices.Delete(slices.Clone(b), n, n+1))
			tried(t, "one byte in", slices.Insert(slices.Clone(b), n, 0))
		}
		for _, tail := range []string{"\x00", "\xff", "tail", string(b)} {
			refused(t, "longer", append(slices.Clone(b), tail...), api.ErrTail, len(b))
		}
		for _, count := range []int{0, 1, 2, 3, len(l) - 1, len(l) + 1, 4095, 4096, 4097} {
			tried(t, "another count", bytesOf(count, l))
		}
	}
}

func TestP19_2_DecodeOfTurnedBytes(t *testing.T) {
	for _, texts := range rows() {
		b := chain.Encode(linked(texts...))
		for k := 0; k < len(b); k += 1 + len(b)/500 {
			was := b[k]
			for _, n := range []byte{0, 1, 2, 15, 16, 127, 128, 255, was ^ 1, was + 1, was - 1} {
				b[k] = n
				if why := tried(t, "turned", b); why == api.OK && n != was {
					t.Fatalf("byte %d of the chain of %q turned to %d: taken", k, texts, n)
				}
			}
			b[k] = was
		}
	}
}

func TestP19_2_DecodeOfAnyBytes(t *testing.T) {
	r := rand.New(rand.NewSource(19))
	met := map[api.Errno]int{}
	for range 100000 {
		l := make([]string, r.Intn(4))
		for k := range l {
			l[k] = strings.Repeat("r", r.Intn(5))
		}
		b := chain.Encode(chain.Make(l))
		for range r.Intn(3) {
			switch k := r.Intn(len(b) + 1); r.Intn(4) {
			case 0:
				b = b[:k]
			case 1:
				b = slices.Insert(b, k, byte(r.Intn(256)))
			case 2:
				b = append(b, b[k:]...)
			case 3:
				if k < len(b) {
					b[k] ^= 1 << r.Intn(8)
				}
			}
		}
		met[tried(t, "any bytes", b)]++
	}
	for _, why := range []api.Errno{api.OK, api.ErrLong, api.ErrEnd, api.ErrTail, api.ErrForm} {
		if met[why] < 1000 {
			t.Errorf("%d was met %d times", why, met[why])
		}
	}
}

// A chain as long as may be, of texts as long as may be.
func TestP19_2_DecodeOfTheLongest(t *testing.T) {
	if testing.Short() {
		t.Skip("sums sixteen million bytes three times")
	}
	texts := make([]string, 4096)
	for k := range texts {
		texts[k] = strings.Repeat(string(rune('a'+k%26)), api.MaxRecord)
	}
	l := chain.Make(texts)
	b := chain.Encode(l)
	if got, why, at := chain.Decode(b); why != api.OK || at != 0 || !slices.Equal(got, l) {
		t.Errorf("Decode: %d links, %d at %d", len(got), why, at)
	}
	b[len(b)-1] ^= 1
	refused(t, "the last byte turned", b, api.ErrForm, 4+4095*4036)
}
