package guard

import "conclave/api"

// Kinds of words.
const (
	ends = iota // there is none: the text is over
	wrong
	number
	name
	not
	and
	or
	lt
	eq
	add
	sub
)

// maxDigits is how many digits a number may have.
const maxDigits = 4

// word stands in a text from from to below to; n is how much a number is.
type word struct{ kind, from, to, n int }

// read answers the first word of s from at on. A word goes on up to a blank or the end: who meets another byte than
// its kind has takes the rest along, as no word.
func read(s string, at int) word {
	var w word
	var digits int // where they begin, behind a minus
blanks:
	if at < len(s) && s[at] == ' ' {
		at++
		goto blanks
	}
	w.from = at
	if at == len(s) {
		goto over
	}
	if isLetter(s[at]) {
		goto letters
	}
	if s[at] == '-' {
		at++
	}
	digits = at
more:
	if at < len(s) && at < digits+maxDigits && isDigit(s[at]) {
		w.n = 10*w.n + int(s[at]-'0')
		at++
		goto more
	}
	if at == digits {
		goto none
	}
	if s[w.from] == '-' {
		w.n = -w.n
	}
	w.kind = number
	goto rest
letters:
	if at < len(s) && isLetter(s[at]) {
		at++
		goto letters
	}
	w.kind = spelt(s[w.from:at])
	goto rest
none:
	w.kind = wrong
rest:
	if at < len(s) && s[at] != ' ' {
		at++
		goto none
	}
over:
	w.to = at
	return w
}

// spelt answers which kind of word these small letters are.
func spelt(letters string) int {
	switch letters {
	case "not":
		return not
	case "and":
		return and
	case "or":
		return or
	case "lt":
		return lt
	case "eq":
		return eq
	case "add":
		return add
	case "sub":
		return sub
	case "type", "attr", "stage", "mark":
		return wrong
	}
	if len(letters) > api.MaxName {
		return wrong
	}
	return name
}

// parts answers of how many guards an operation is; other words are of none.
func parts(kind int) int {
	switch kind {
	case not:
		return 1
	case and, or, lt, eq, add, sub:
		return 2
	}
	return 0
}

func isLetter(b byte) bool { return 'a' <= b && b <= 'z' }

func isDigit(b byte) bool { return '0' <= b && b <= '9' }
