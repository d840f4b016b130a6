package lex

import (
	"iter"
	"strconv"
	"strings"

	"riposte/api"
)

func keywords() map[string]bool {
	return map[string]bool{
		"and": true, "as": true, "bool": true, "cell": true, "choose": true, "com": true,
		"def": true, "do": true, "else": true, "export": true, "false": true, "fn": true,
		"get": true, "hang": true, "if": true, "import": true, "in": true, "int": true,
		"jump": true, "label": true, "new": true, "not": true, "notice": true, "of": true,
		"or": true, "put": true, "skip": true, "then": true, "true": true, "while": true,
	}
}

// pieces yields the tokens of a text and its comments, from left to right, each with its error.
// A byte with which no token begins is a piece of its own, so that the comments behind it are found.
func pieces(s string, words map[string]bool) iter.Seq2[api.Token, api.Errno] {
	return func(yield func(api.Token, api.Errno) bool) {
		at := past(s, 0, gap)
		for at < len(s) {
			end := pieceEnd(s, at)
			kind, e := kindOf(s[at:end], words)
			piece := api.Token{Kind: kind, Text: s[at:end], At: at}
			if kind == api.TokNote {
				piece.Text = s[at+1 : end]
			}
			if !yield(piece, e) {
				return
			}
			at = past(s, end, gap)
		}
	}
}

// pieceEnd returns the place behind the piece that begins at a place.
func pieceEnd(s string, at int) int {
	switch classOf(s[at]) {
	case small, digit:
		return past(s, at, small, capital, digit)
	case tilde:
		return lineEnd(s, at)
	}
	if strings.HasPrefix(s[at:], ":=") || strings.HasPrefix(s[at:], "->") {
		return at + 2
	}
	return at + 1
}

// lineEnd returns the place of the first line feed from a place on; the end if there is none.
func lineEnd(s string, at int) int {
	if n := strings.IndexByte(s[at:], '\n'); n >= 0 {
		return at + n
	}
	return len(s)
}

// kindOf returns the kind of a piece, and its error.
func kindOf(s string, words map[string]bool) (uint8, api.Errno) {
	switch classOf(s[0]) {
	case small:
		if words[s] {
			return api.TokWord, api.OK
		}
		if len(s) > api.MaxName {
			return api.TokName, api.ErrForm
		}
		return api.TokName, api.OK
	case digit:
		return api.TokNumber, numberError(s)
	case mark:
		return api.TokSign, api.OK
	case tilde:
		return api.TokNote, api.OK
	}
	return 0, api.ErrForm
}

func numberError(s string) api.Errno {
	if past(s, 0, digit) < len(s) || s[0] == '0' && len(s) > 1 {
		return api.ErrForm
	}
	if n, err := strconv.Atoi(s); err != nil || n > api.MaxNumber {
		return api.ErrRange
	}
	return api.OK
}

// isRight tells whether a token is one as it stands alone.
func isRight(t api.Token, words map[string]bool) bool {
	if t.Text == "" || pieceEnd(t.Text, 0) < len(t.Text) {
		return false
	}
	kind, e := kindOf(t.Text, words)
	return e == api.OK && kind == t.Kind && kind != api.TokNote
}

func isName(s string, words map[string]bool) bool {
	return isRight(api.Token{Kind: api.TokName, Text: s}, words)
}

// Tokens returns the tokens of a text; with an error, where it is.
func Tokens(s string) ([]api.Token, int, api.Errno) {
	if at, e := textError(s); e != api.OK {
		return nil, at, e
	}
	var l []api.Token
	for piece, e := range pieces(s, keywords()) {
		if piece.Kind == api.TokNote {
			continue
		}
		if e == api.OK && len(l) == api.MaxTokens {
			e = api.ErrLimit
		}
		if e != api.OK {
			return nil, piece.At, e
		}
		l = append(l, piece)
	}
	return l, 0, api.OK
}

// Notes returns the comments of a text.
func Notes(s string) ([]api.Token, api.Errno) {
	if _, e := textError(s); e != api.OK {
		return nil, e
	}
	var l []api.Token
	for piece := range pieces(s, keywords()) {
		if piece.Kind == api.TokNote {
			l = append(l, piece)
		}
	}
	return l, api.OK
}
