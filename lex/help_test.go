package lex_test

import (
	"math/rand"
	"strings"
	"testing"

	"riposte/api"
	"riposte/lex"
)

// name, number, word, sign and note return tokens at the place 0.
func name(s string) api.Token   { return api.Token{Kind: api.TokName, Text: s} }
func number(s string) api.Token { return api.Token{Kind: api.TokNumber, Text: s} }
func word(s string) api.Token   { return api.Token{Kind: api.TokWord, Text: s} }
func sign(s string) api.Token   { return api.Token{Kind: api.TokSign, Text: s} }
func note(s string) api.Token   { return api.Token{Kind: api.TokNote, Text: s} }

// at returns a token at a place.
func at(n int, t api.Token) api.Token {
	t.At = n
	return t
}

func splice(from, to int, s string) api.Splice { return api.Splice{From: from, To: to, Text: s} }

// keywords and signs are as the chapter lists them.
var keywords = strings.Fields("and as bool cell choose com def do else export false fn get hang if import in int jump label new not notice of or put skip then true while")

var signs = strings.Fields(":= -> = < + - * ! ( ) { } , ; : .")

// long returns a text of n bytes without tokens.
func long(n int) string { return strings.Repeat(" ", n) }

// source returns the same numbers in each run, so that a test that fails fails again.
func source(seed int64) *rand.Rand { return rand.New(rand.NewSource(seed)) }

func pick(r *rand.Rand, l []string) string { return l[r.Intn(len(l))] }

// rightText returns a text that has tokens.
func rightText(r *rand.Rand, parts int) string {
	names := []string{"x", "y", "xs", "aB9", "0", "7", "42", "1000000"}
	gaps := []string{" ", "\n", "\n", "~c\n", "~ x if 01 #\n"}
	var b strings.Builder
	for range r.Intn(parts + 1) {
		l := [][]string{names, gaps, signs, keywords, {":", "=", "-"}}[r.Intn(5)]
		if r.Intn(3) > 0 {
			b.WriteByte(' ')
		}
		b.WriteString(pick(r, l))
	}
	if _, _, e := lex.Tokens(b.String()); e != api.OK {
		return rightText(r, parts) // two numbers may have met, or a name was too long
	}
	return b.String()
}

// anyText returns a text that may have no tokens.
func anyText(r *rand.Rand, parts int) string {
	l := append([]string{"x", "if", "iff", "A", "aB", "0", "01", "1a", "1000001", "abcdefghijklm", ">", "#", "_", " ", "\n", "~", "~x\n", "-", ":", "="}, signs...)
	var b strings.Builder
	for range r.Intn(parts + 1) {
		b.WriteString(pick(r, l))
	}
	return b.String()
}

// someSplices returns splices that are right for a text.
func someSplices(r *rand.Rand, s string, many int) []api.Splice {
	texts := []string{"", "x", " ", "\n", "~", "xy z", "=", ":", "1", "~a\n"}
	var l []api.Splice
	from := 0
	for range r.Intn(many + 1) {
		from += r.Intn(min(len(s)-from, 4) + 1)
		to := from + r.Intn(min(len(s)-from, 3)+1)
		l = append(l, splice(from, to, pick(r, texts)))
		from = to
	}
	return l
}

// bare returns tokens without their places.
func bare(l []api.Token) []api.Token {
	var out []api.Token
	for _, t := range l {
		out = append(out, at(0, t))
	}
	return out
}

// tokens returns the tokens of a text that has them.
func tokens(t *testing.T, s string) []api.Token {
	t.Helper()
	l, n, e := lex.Tokens(s)
	if e != api.OK || n != 0 {
		t.Fatalf("Tokens of %q: %d, %v", s, n, e)
	}
	return l
}

// apply returns the text after splices that are right.
func apply(t *testing.T, s string, l []api.Splice) string {
	t.Helper()
	after, e := lex.Apply(s, l)
	if e != api.OK {
		t.Fatalf("Apply of %q with %v: %v", s, l, e)
	}
	return after
}
