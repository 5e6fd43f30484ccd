package schema

import (
	"strings"

	"conclave/api"
	"conclave/guard"
)

// readParts answers the type that the parts of s tell, Right or not. If one of them is of no kind, it answers false, and
// where the first such part begins. Names and guards are copied: a piece of s would keep all of s in memory.
func readParts(s string) (api.Type, bool, int) {
	var t api.Type
	var a api.Attr
	var r api.Rule
	var at int
	part, left, more := strings.Cut(s, ";")
	key, rest := word(trim(part))
	name, rest := word(rest)
	ok := key == "type" && name != "" && rest == ""
	if !ok {
		goto wrong
	}
	t.Name = strings.Clone(name)
next:
	if !more {
		return t, true, 0
	}
	at += len(part) + len(";")
	part, left, more = strings.Cut(left, ";")
	key, rest = word(trim(part))
	switch key {
	case "attr":
		goto attr
	case "stage":
		goto stage
	case "mark":
		goto mark
	}
wrong:
	return api.Type{}, false, at
attr:
	if a, ok = readAttr(rest); !ok {
		goto wrong
	}
	t.Attrs = keep(t.Attrs, a)
	goto next
stage:
	if r, ok = readRule(rest); !ok {
		goto wrong
	}
	t.Stages = keep(t.Stages, r)
	goto next
mark:
	if r, ok = readRule(rest); !ok {
		goto wrong
	}
	t.Marks = keep(t.Marks, r)
	goto next
}

// readAttr answers the attribute that a part tells behind its first word.
func readAttr(s string) (api.Attr, bool) {
	name, s := word(s)
	start, s, ok := number(s)
	if !ok {
		return api.Attr{}, false
	}
	lo, s, ok := number(s)
	if !ok {
		return api.Attr{}, false
	}
	hi, s, ok := number(s)
	if !ok || s != "" {
		return api.Attr{}, false
	}
	return api.Attr{Name: strings.Clone(name), Start: start, Lo: lo, Hi: hi}, true
}

// readRule answers the stage or mark that a part tells behind its first word. All of the rest is the guard, as it stands.
func readRule(s string) (api.Rule, bool) {
	name, s := word(s)
	if s == "" {
		return api.Rule{}, false
	}
	return api.Rule{Name: strings.Clone(name), Guard: strings.Clone(s)}, true
}

// number reads the first word of s as guards read theirs: of all guards of one word those without a name are numbers.
func number(s string) (int, string, bool) {
	w, s := word(s)
	n, why := guard.Eval(w, nil, nil)
	return n, s, why == api.OK
}

// word answers the first word of s, which has no blanks ahead, and what stands behind it and its blanks.
func word(s string) (string, string) {
	w, rest, _ := strings.Cut(s, " ")
	return w, strings.TrimLeft(rest, " ")
}

func trim(s string) string { return strings.Trim(s, " ") }

// keep puts item behind list. Of one too many on it keeps no more: Right refuses the type by then, and a text may have
// very many of them.
func keep[T any](list []T, item T) []T {
	if len(list) > api.MaxItems {
		return list
	}
	return append(list, item)
}
