package lex

import "riposte/api"

// heads returns how many elements at the beginning of two lists are the same.
func heads[T any](a, b []T, same func(x, y T) bool) int {
	n := min(len(a), len(b))
	for i := range n {
		if !same(a[i], b[i]) {
			return i
		}
	}
	return n
}

// tails returns how many elements at the end of two lists are the same.
func tails[T any](a, b []T, same func(x, y T) bool) int {
	n := min(len(a), len(b))
	for i := range n {
		if !same(a[len(a)-1-i], b[len(b)-1-i]) {
			return i
		}
	}
	return n
}

// Diff returns a splice that leads from a text to another one.
func Diff(a, b string) ([]api.Splice, api.Errno) {
	for _, s := range []string{a, b} {
		if _, e := textError(s); e != api.OK {
			return nil, e
		}
	}
	if a == b {
		return nil, api.OK
	}
	same := func(x, y byte) bool { return x == y }
	from := heads([]byte(a), []byte(b), same)
	// What the beginnings have in common is no part of the ends: From comes before To.
	n := tails([]byte(a[from:]), []byte(b[from:]), same)
	return []api.Splice{{From: from, To: len(a) - n, Text: b[from : len(b)-n]}}, api.OK
}

// Kept returns how many tokens at the beginning, and at the end, stay when a text is spliced.
func Kept(s string, x api.Splice) (int, int, api.Errno) {
	after, e := Apply(s, []api.Splice{x})
	if e != api.OK {
		return 0, 0, e
	}
	old, _, e := Tokens(s)
	if e != api.OK {
		return 0, 0, e
	}
	now, _, e := Tokens(after)
	if e != api.OK {
		return 0, 0, e
	}
	stays := func(x, y api.Token) bool { return x == y }
	head := heads(old, now, stays)
	longer := len(after) - len(s)
	shifts := func(x, y api.Token) bool {
		x.At += longer
		return x == y
	}
	return head, tails(old[head:], now[head:], shifts), api.OK
}
