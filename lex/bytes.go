// Package lex is layer 1: what the text of a program consists of, where everything stands in it, and how it changes.
package lex

import (
	"slices"
	"strings"

	"riposte/api"
)

// class is what a byte can be in a text.
type class uint8

// The classes of bytes.
const (
	alien   class = iota // none of a text
	gap                  // a blank or a line feed
	small                // a small letter
	capital              // a capital letter
	digit                // a digit
	mark                 // a sign, or the first byte of one
	tilde                // what a comment begins with
	stray                // of a text, but no token begins with it
)

// marks has the signs of one byte.
const marks = "=<+-*!(){},;:."

func classOf(b byte) class {
	switch {
	case b == ' ' || b == '\n':
		return gap
	case b < ' ' || b > '~':
		return alien
	case b == '~':
		return tilde
	case b >= 'a' && b <= 'z':
		return small
	case b >= 'A' && b <= 'Z':
		return capital
	case b >= '0' && b <= '9':
		return digit
	case strings.IndexByte(marks, b) >= 0:
		return mark
	}
	return stray
}

// past returns the first place, from one on, whose byte is of none of some classes; at most the end.
func past(s string, at int, l ...class) int {
	for i := range len(s) - at {
		if !slices.Contains(l, classOf(s[at+i])) {
			return at + i
		}
	}
	return len(s)
}

// firstAlien returns the place of the first byte that is none of a text; the end if there is none.
func firstAlien(s string) int {
	return past(s, 0, gap, small, capital, digit, mark, tilde, stray)
}

// textError returns the error of a text, and where it is.
func textError(s string) (int, api.Errno) {
	if len(s) > api.MaxText {
		return 0, api.ErrLimit
	}
	if n := firstAlien(s); n < len(s) {
		return n, api.ErrArg
	}
	return 0, api.OK
}
