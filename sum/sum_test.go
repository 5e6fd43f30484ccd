package sum_test

import (
	"crypto/sha256"
	"encoding/hex"
	"hash/crc32"
	"math/rand"
	"strings"
	"testing"

	"conclave/sum"
)

// lengths are those about the ends of blocks, of the first three blocks and of longer rows.
func lengths() []int {
	l := []int{255, 256, 257, 1000, 4000, 4095, 4096, 4097, 5000}
	for n := range 200 {
		l = append(l, n)
	}
	return l
}

// row answers n bytes that differ from one seed to another.
func row(n int, seed int64) []byte {
	b := make([]byte, n)
	rand.New(rand.NewSource(seed)).Read(b)
	return b
}

// everyByte answers the 256 byte values in their order.
func everyByte() []byte {
	b := make([]byte, 256)
	for i := range b {
		b[i] = byte(i)
	}
	return b
}

func shaText(b []byte) string {
	s := sum.Sha(b)
	return sum.Hex(s[:])
}

func TestP2_1_CrcRuns(t *testing.T) {
	for _, c := range []struct {
		given string
		want  uint32
	}{
		{"", 0},
		{"123456789", 0xcbf43926},
		{"a", 0xe8b7be43},
		{"abc", 0x352441c2},
		{"\x00", 0xd202ef8d},
		{"\x00\x00\x00\x00", 0x2144df1c},
		{"\xff", 0xff000000},
		{"\xff\xff\xff\xff", 0xffffffff},
		{"The quick brown fox jumps over the lazy dog", 0x414fa339},
	} {
		if got := sum.Crc([]byte(c.given)); got != c.want {
			t.Errorf("Crc(%q): %08x, not %08x", c.given, got, c.want)
		}
	}
	if got := sum.Crc(everyByte()); got != 0x29058c73 {
		t.Errorf("Crc of every byte: %08x", got)
	}
}

func TestP2_1_CrcLengths(t *testing.T) {
	for _, n := range lengths() {
		for seed := range int64(3) {
			b := row(n, seed)
			if got, want := sum.Crc(b), crc32.ChecksumIEEE(b); got != want {
				t.Fatalf("Crc of %d bytes: %08x, not %08x", n, got, want)
			}
		}
	}
}

func TestP2_1_CrcByteValues(t *testing.T) {
	seen := map[uint32]int{}
	for v := range 256 {
		b := []byte{byte(v)}
		got := sum.Crc(b)
		if want := crc32.ChecksumIEEE(b); got != want {
			t.Errorf("Crc(%02x): %08x, not %08x", v, got, want)
		}
		if other, ok := seen[got]; ok {
			t.Errorf("Crc(%02x) is that of %02x", v, other)
		}
		seen[got] = v
	}
}

// FIPS 180-4's own messages, and no bytes.
func TestP2_1_ShaRuns(t *testing.T) {
	for _, c := range []struct{ given, want string }{
		{"", "e3b0c44298fc1c149afbf4c8996fb92427ae41e4649b934ca495991b7852b855"},
		{"abc", "ba7816bf8f01cfea414140de5dae2223b00361a396177a9cb410ff61f20015ad"},
		{"abcdbcdecdefdefgefghfghighijhijkijkljklmklmnlmnomnopnopq", "248d6a61d20638b8e5c026930c3e6039a33ce45964ff2167f6ecedd419db06c1"},
		{
			"abcdefghbcdefghicdefghijdefghijkefghijklfghijklmghijklmnhijklmnoijklmnopjklmnopqklmnopqrlmnopqrsmnopqrstnopqrstu",
			"cf5b16a778af8380036ce59e7b0492370b249b11e8f07a51afac45037afee9d1",
		},
		{strings.Repeat("a", 1000000), "cdc76e5c9914fb9281a1c7e284d73e67f1809a48a497200e046d39ccc7112cd0"},
		{string(everyByte()), "40aff2e9d2d8922e47afd4648e6967497158785fbd1da870e7110266bf944880"},
	} {
		if got := shaText([]byte(c.given)); got != c.want {
			t.Errorf("Sha of %d bytes: %s, not %s", len(c.given), got, c.want)
		}
	}
}

func TestP2_1_ShaLengths(t *testing.T) {
	for _, n := range lengths() {
		for seed := range int64(3) {
			b := row(n, seed)
			if sum.Sha(b) != sha256.Sum256(b) {
				t.Fatalf("Sha of %d bytes: %s", n, shaText(b))
			}
		}
	}
}

// Rows of one byte alone tell a padding that is mistaken for the message's end.
func TestP2_1_ShaByteValues(t *testing.T) {
	for v := range 256 {
		for _, n := range []int{1, 55, 56, 63, 64, 65, 119, 120, 128} {
			b := []byte(strings.Repeat(string([]byte{byte(v)}), n))
			if sum.Sha(b) != sha256.Sum256(b) {
				t.Fatalf("Sha of %d bytes %02x: %s", n, v, shaText(b))
			}
		}
	}
}

// A message whose length in bits needs more than one word.
func TestP2_1_ShaLongerThanAWordOfBits(t *testing.T) {
	if testing.Short() {
		t.Skip("sums half a thousand million bytes")
	}
	b := make([]byte, 1<<29+3)
	b[1<<29] = 1
	if sum.Sha(b) != sha256.Sum256(b) {
		t.Errorf("Sha of %d bytes: %s", len(b), shaText(b))
	}
}

func TestP2_1_TurnedBit(t *testing.T) {
	for _, n := range []int{1, 55, 56, 63, 64, 65, 119, 120, 128} {
		b := row(n, 7)
		crc, sha := sum.Crc(b), sum.Sha(b)
		for i := range 8 * n {
			b[i/8] ^= 1 << (i % 8)
			if got := sum.Crc(b); got == crc || got != crc32.ChecksumIEEE(b) {
				t.Fatalf("Crc of %d bytes with bit %d turned: %08x", n, i, got)
			}
			if got := sum.Sha(b); got == sha || got != sha256.Sum256(b) {
				t.Fatalf("Sha of %d bytes with bit %d turned: %s", n, i, shaText(b))
			}
			b[i/8] ^= 1 << (i % 8)
		}
		if sum.Crc(b) != crc || sum.Sha(b) != sha {
			t.Fatalf("%d bytes with all bits turned back", n)
		}
	}
}

func TestP2_1_Hex(t *testing.T) {
	for _, c := range []struct {
		given []byte
		want  string
	}{
		{nil, ""},
		{[]byte{}, ""},
		{[]byte{0}, "00"},
		{[]byte{0, 255, 16}, "00ff10"},
		{[]byte{1, 0x23, 0x45, 0x67, 0x89, 0xab, 0xcd, 0xef}, "0123456789abcdef"},
		{[]byte{0xf0, 0x0f}, "f00f"},
		{[]byte("\xffé\x00"), "ffc3a900"},
	} {
		if got := sum.Hex(c.given); got != c.want {
			t.Errorf("Hex(%v): %q, not %q", c.given, got, c.want)
		}
	}
	for v := range 256 {
		b := []byte{byte(v)}
		if got, want := sum.Hex(b), hex.EncodeToString(b); got != want {
			t.Errorf("Hex(%02x): %q, not %q", v, got, want)
		}
	}
	for _, n := range lengths() {
		b := row(n, 1)
		if got, want := sum.Hex(b), hex.EncodeToString(b); got != want {
			t.Fatalf("Hex of %d bytes: %q, not %q", n, got, want)
		}
	}
}

func TestP2_1_Hash(t *testing.T) {
	for _, c := range []struct {
		given string
		want  int
	}{
		{"", 0},
		{"123456789", 0x26},
		{"a", 0x43},
		{"abc", 0xc2},
		{"\x00", 0x8d},
		{"\xff", 0},
		{"\xff\xff\xff\xff", 255},
	} {
		if got := sum.Hash(c.given); got != c.want {
			t.Errorf("Hash(%q): %d, not %d", c.given, got, c.want)
		}
	}
	for _, n := range lengths() {
		b := row(n, 2)
		if got, want := sum.Hash(string(b)), int(crc32.ChecksumIEEE(b)%256); got != want {
			t.Fatalf("Hash of %d bytes: %d, not %d", n, got, want)
		}
	}
}

// Names of one letter fall on as many hashes as there are letters: each byte counts, and all eight bits of it.
func TestP2_1_HashByteValues(t *testing.T) {
	seen := map[int]bool{}
	for v := range 256 {
		text := string([]byte{byte(v)})
		got := sum.Hash(text)
		if want := int(crc32.ChecksumIEEE([]byte(text)) & 255); got != want {
			t.Errorf("Hash(%q): %d, not %d", text, got, want)
		}
		if got < 0 || got > 255 {
			t.Errorf("Hash(%q): %d", text, got)
		}
		seen[got] = true
	}
	if len(seen) != 256 {
		t.Errorf("%d hashes", len(seen))
	}
}

// The texts that are bytes alone, not letters, and those that look alike, are not the same.
func TestP2_1_HashBytesNotLetters(t *testing.T) {
	for _, s := range []string{"\xc3\x28", "\xed\xa0\x80", "\ufffd", "é", "e\u0301", "A", "a", " a", "a ", "a\x00"} {
		if got, want := sum.Hash(s), int(sum.Crc([]byte(s))&255); got != want {
			t.Errorf("Hash(%q): %d, not %d", s, got, want)
		}
	}
}

// What is handed in, and the room behind it, stays as it was: a block's padding is not written there.
func TestR2_GivenIsNotChanged(t *testing.T) {
	for _, n := range lengths() {
		whole := row(n+200, 3)
		before := string(whole)
		given := whole[:n]
		sum.Crc(given)
		sum.Sha(given)
		sum.Hex(given)
		if string(whole) != before {
			t.Fatalf("%d bytes, or the room behind them, were changed", n)
		}
	}
}

func TestR5_RoomBehindIsNotRead(t *testing.T) {
	for _, n := range lengths() {
		whole := row(n+200, 4)
		given := whole[:n]
		crc, sha, text := sum.Crc(given), sum.Sha(given), sum.Hex(given)
		clear(whole[n:])
		if sum.Crc(given) != crc || sum.Sha(given) != sha || sum.Hex(given) != text {
			t.Fatalf("%d bytes: the room behind them is read", n)
		}
	}
}

// Answers stay when what was handed in is changed behind the call, and the next call asks the bytes anew.
func TestR2_GivenIsNotKept(t *testing.T) {
	for _, n := range []int{1, 55, 56, 63, 64, 65, 119, 120, 128} {
		b := row(n, 5)
		crc, sha, text := sum.Crc(b), sum.Sha(b), sum.Hex(b)
		wantCrc, wantSha, wantText := crc32.ChecksumIEEE(b), sha256.Sum256(b), hex.EncodeToString(b)
		for i := range b {
			b[i] ^= 0xff
		}
		if crc != wantCrc || sha != wantSha || text != wantText {
			t.Fatalf("%d bytes: an answer changed behind its call", n)
		}
		if sum.Crc(b) != crc32.ChecksumIEEE(b) || sum.Sha(b) != sha256.Sum256(b) || sum.Hex(b) != hex.EncodeToString(b) {
			t.Fatalf("%d bytes: an earlier call's bytes are kept", n)
		}
	}
}

// An answer is new memory: writing to one changes no other.
func TestR2_AnswerIsNew(t *testing.T) {
	first := sum.Sha([]byte("abc"))
	for i := range first {
		first[i] = 0
	}
	if shaText([]byte("abc")) != "ba7816bf8f01cfea414140de5dae2223b00361a396177a9cb410ff61f20015ad" {
		t.Error("an answer that was written to comes again")
	}
}

func TestR4_NilIsEmpty(t *testing.T) {
	if sum.Crc(nil) != 0 || sum.Crc([]byte{}) != 0 {
		t.Error("Crc of nothing")
	}
	if sum.Sha(nil) != sum.Sha([]byte{}) || sum.Sha(nil) != sha256.Sum256(nil) {
		t.Error("Sha of nothing")
	}
	if sum.Hex(nil) != "" || sum.Hex([]byte{}) != "" {
		t.Error("Hex of nothing")
	}
}

// Calls in another order answer the same: nothing is kept between them.
func TestR4_CallsDoNotHangTogether(t *testing.T) {
	crcs, shas := map[int]uint32{}, map[int][32]byte{}
	for n := range 130 {
		crcs[n], shas[n] = sum.Crc(row(n, 6)), sum.Sha(row(n, 6))
	}
	for n := 129; n >= 0; n-- {
		if sum.Crc(row(n, 6)) != crcs[n] || sum.Sha(row(n, 6)) != shas[n] {
			t.Fatalf("%d bytes: another answer the second time", n)
		}
	}
}

func BenchmarkCrc(b *testing.B) {
	given := row(4096, 1)
	b.SetBytes(4096)
	for b.Loop() {
		sum.Crc(given)
	}
}

func BenchmarkSha(b *testing.B) {
	given := row(4096, 1)
	b.SetBytes(4096)
	for b.Loop() {
		sum.Sha(given)
	}
}
