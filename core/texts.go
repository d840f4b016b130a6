package core

import (
	"strconv"
	"strings"

	"riposte/api"
)

// appendText returns a text with that of a term behind it.
func appendText(text []byte, forms []form, t api.Term) []byte {
	f, _ := formOf(forms, t)
	for _, c := range []byte(f.text) {
		if x := field(&t, c); x != nil {
			text = strconv.AppendInt(text, int64(*x), 10)
			continue
		}
		text = append(text, c)
	}
	if len(t.Kids) == 0 {
		return text
	}
	sign := byte('(')
	for _, kid := range t.Kids {
		text = appendText(append(text, sign), forms, kid)
		sign = ','
	}
	return append(text, ')')
}

// reader reads the text of a term. It takes more than is right: whoever uses it holds the text of what was read against what it read.
type reader struct {
	text  string          // what is left of it
	words map[string]form // by their texts, with a 0 for each number
}

// read returns the term of a text, if it is that of one; otherwise any term.
func read(s string) api.Term {
	r := &reader{s, map[string]form{}}
	zeros := strings.NewReplacer("I", "0", "N", "0", "M", "0")
	for _, f := range forms() {
		r.words[zeros.Replace(f.text)] = f
	}
	return r.term()
}

// term reads a term with its kids.
func (r *reader) term() api.Term {
	head := r.text
	if end := strings.IndexAny(head, "(,)"); end >= 0 {
		head = head[:end]
	}
	r.text = r.text[len(head):]
	t := r.bare(head)
	for sign := "("; strings.HasPrefix(r.text, sign); sign = "," {
		r.text = r.text[1:]
		kid := r.term()
		t.Kids = append(t.Kids, kid)
	}
	if len(t.Kids) > 0 {
		r.text = strings.TrimPrefix(r.text, ")")
	}
	return t
}

// bare returns the term with a text without kids.
func (r *reader) bare(s string) api.Term {
	word, numbers := split(s)
	f := r.words[word]
	t, next := f.Term, 0
	for _, c := range []byte(f.text) {
		if x := field(&t, c); x != nil {
			*x = numbers[next]
			next++
		}
	}
	return t
}

// split returns a text with a 0 in the place of each number, and the first numbers; no term has more.
func split(s string) (string, [2]int) {
	var word []byte
	var numbers [2]int
	many := 0
	for s != "" {
		rest := strings.TrimLeft(s, "0123456789")
		digits := s[:len(s)-len(rest)]
		if digits == "" {
			word = append(word, s[0])
			s = s[1:]
			continue
		}
		if many < len(numbers) {
			numbers[many], _ = strconv.Atoi(digits) // one that is too great is that of no term
		}
		many++
		word = append(word, '0')
		s = rest
	}
	return string(word), numbers
}
