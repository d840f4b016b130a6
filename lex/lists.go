package lex

import (
	"slices"
	"strings"

	"riposte/api"
)

// listError returns the error of a list of tokens.
func listError(l []api.Token) api.Errno {
	if len(l) > api.MaxTokens {
		return api.ErrLimit
	}
	words := keywords()
	wrong := func(t api.Token) bool { return !isRight(t, words) }
	if slices.ContainsFunc(l, wrong) {
		return api.ErrArg
	}
	return api.OK
}

// runTogether tells whether two tokens become others if no blank stands between them.
func runTogether(x, y api.Token) bool {
	if x.Kind != api.TokSign && y.Kind != api.TokSign {
		return true
	}
	return x.Text == ":" && y.Text == "="
}

// Tight returns the shortest text with some tokens.
func Tight(l []api.Token) (string, api.Errno) {
	if e := listError(l); e != api.OK {
		return "", e
	}
	var b strings.Builder
	for i, t := range l {
		if i > 0 && runTogether(l[i-1], t) {
			b.WriteByte(' ')
		}
		b.WriteString(t.Text)
	}
	if b.Len() > api.MaxText {
		return "", api.ErrLimit
	}
	return b.String(), api.OK
}

// Pairs returns which brackets belong together; with an error, the number of a token.
func Pairs(l []api.Token) ([]int, int, api.Errno) {
	if e := listError(l); e != api.OK {
		return nil, 0, e
	}
	pairs := slices.Repeat([]int{-1}, len(l))
	opening := map[string]string{")": "(", "}": "{"}
	var open []int
	for i, t := range l {
		if t.Text == "(" || t.Text == "{" {
			open = append(open, i)
		}
		mate, closes := opening[t.Text]
		if !closes {
			continue
		}
		last := len(open) - 1
		if last < 0 || l[open[last]].Text != mate {
			return nil, i, api.ErrForm
		}
		pairs[i], pairs[open[last]] = open[last], i
		open = open[:last]
	}
	if len(open) > 0 {
		return nil, open[0], api.ErrForm
	}
	return pairs, 0, api.OK
}
