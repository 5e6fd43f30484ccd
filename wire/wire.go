// Package wire: numbers and texts as bytes: see doc/01-wire.md.
package wire

import (
	"conclave/api"
)

// Writer gathers what is written.
type Writer struct {
	bytes []byte
}

// NewWriter answers a Writer that has written nothing.
func NewWriter() *Writer { return &Writer{} }

// Byte writes the lowest 8 bits of n.
func (w *Writer) Byte(n int) { w.number(uint64(n), 1) }

// Four writes the lowest 32 bits of n, the highest byte first.
func (w *Writer) Four(n int) { w.number(uint64(n), 4) }

// Eight writes n, the highest byte first.
func (w *Writer) Eight(n int64) { w.number(uint64(n), 8) }

// Text writes s behind its length.
func (w *Writer) Text(s string) {
	w.Four(len(s))
	w.bytes = append(w.bytes, s...)
}

// Done answers a copy of what is written: the Writer may go on behind it.
func (w *Writer) Done() []byte {
	b := make([]byte, len(w.bytes))
	copy(b, w.bytes)
	return b
}

func (w *Writer) number(n uint64, width int) {
	for i := width - 1; i >= 0; i-- {
		w.bytes = append(w.bytes, byte(n>>(8*i)))
	}
}

// Reader reads what a Writer wrote, up to its first refusal.
type Reader struct {
	bytes []byte
	at    int       // the next byte, or the place of the refusal
	why   api.Errno // the first refusal: once it stands, at does not move
}

// NewReader answers a Reader of a copy of b: the caller may change b behind it.
func NewReader(b []byte) *Reader {
	r := &Reader{bytes: make([]byte, len(b))}
	copy(r.bytes, b)
	return r
}

// Byte reads what Writer's Byte wrote, as 0 to 2^8 - 1.
func (r *Reader) Byte() int { return int(r.number(1)) }

// Four reads what Writer's Four wrote, as 0 to 2^32 - 1.
func (r *Reader) Four() int { return int(r.number(4)) }

// Eight reads what Writer's Eight wrote.
func (r *Reader) Eight() int64 { return int64(r.number(8)) }

// Text reads a text of most bytes or fewer.
func (r *Reader) Text(most int) string {
	n := r.Count(most)
	if !r.has(n) {
		return ""
	}
	s := string(r.bytes[r.at : r.at+n])
	r.at += n
	return s
}

// Count reads a Four that is not above most.
func (r *Reader) Count(most int) int {
	at := r.at
	n := r.Four()
	if n > max(most, 0) {
		r.refuse(api.ErrLong, at)
		return 0
	}
	return n
}

// Fail refuses here, on behalf of a caller who can't take what was read.
func (r *Reader) Fail(why api.Errno) { r.refuse(why, r.at) }

// Left answers how many bytes are not read, 0 behind a refusal.
func (r *Reader) Left() int {
	if r.why != api.OK {
		return 0
	}
	return len(r.bytes) - r.at
}

// End answers what is wrong with the whole and where. It only looks: bytes that are left now may still be read.
func (r *Reader) End() (api.Errno, int) {
	if r.why != api.OK {
		return r.why, r.at
	}
	if r.Left() > 0 {
		return api.ErrTail, r.at
	}
	return api.OK, 0
}

func (r *Reader) number(width int) uint64 {
	var n uint64
	if !r.has(width) {
		return 0
	}
next:
	n = n<<8 | uint64(r.bytes[r.at])
	r.at++
	width--
	if width > 0 {
		goto next
	}
	return n
}

// has tells whether n more bytes may be read, and refuses if they are short. Behind a refusal none is left, and the first one stays.
func (r *Reader) has(n int) bool {
	if n > r.Left() {
		r.refuse(api.ErrEnd, len(r.bytes))
		return false
	}
	return true
}

// refuse keeps the first refusal alone.
func (r *Reader) refuse(why api.Errno, at int) {
	if r.why == api.OK && why != api.OK {
		r.why, r.at = why, at
	}
}
