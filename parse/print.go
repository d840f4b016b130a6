package parse

import (
	"slices"
	"strconv"
	"strings"

	"riposte/api"
	"riposte/lex"
)

// script is a tree that is printed, and the tokens of what has been printed so far.
type script struct {
	inspector
	tokens []api.Token
}

func (s *script) put(kind uint8, text string) {
	s.tokens = append(s.tokens, api.Token{Kind: kind, Text: text})
}

// say puts some signs and keywords.
func (s *script) say(words ...string) {
	for _, w := range words {
		if w[0] >= 'a' && w[0] <= 'z' {
			s.put(api.TokWord, w)
		} else {
			s.put(api.TokSign, w)
		}
	}
}

// node puts the tokens of a node.
func (s *script) node(n int) {
	x := s.Nodes[n]
	if x.Kind == api.IntType && (x.N == 1 || x.N == 2) {
		s.say([]string{"com", "bool"}[x.N-1])
		return
	}
	for word, kids := range places(s.formOf(n).layout, slices.Collect(kidsOf(s.Nodes, n))) {
		switch word {
		case "":
		case "Text":
			s.put(api.TokName, x.Text)
		case "N":
			s.put(api.TokNumber, strconv.Itoa(x.N))
		case "M":
			s.put(api.TokNumber, strconv.Itoa(x.M))
		default:
			s.part(word, kids)
		}
	}
}

// part puts a word of a layout: the kids that stand there, or the word itself.
func (s *script) part(word string, kids []int) {
	place, ok := slotOf(word)
	if !ok {
		s.say(word)
	}
	for i, n := range kids {
		if i > 0 {
			s.say(place.sign)
		}
		if place.needsBrackets(s.formOf(n).rank) {
			s.say("(")
			s.node(n)
			s.say(")")
		} else {
			s.node(n)
		}
	}
}

// text returns the text of a node that is no program.
func (x inspector) text(n int) (string, api.Errno) {
	s := script{inspector: x}
	s.node(n)
	return lex.Tight(s.tokens)
}

// lines returns the texts of the items, a line feed behind each.
func (x inspector) lines() (string, api.Errno) {
	var b strings.Builder
	for n := range kidsOf(x.Nodes, 0) {
		line, e := x.text(n)
		if e != api.OK {
			return "", e
		}
		b.WriteString(line)
		b.WriteByte('\n')
	}
	if b.Len() > api.MaxText {
		return "", api.ErrLimit
	}
	return b.String(), api.OK
}

// Text returns the text of a node.
func Text(t api.Tree, n int) (string, api.Errno) {
	return told(t, n, func() (string, api.Errno) {
		x := inspector{t, forms()}
		if n == 0 {
			return x.lines()
		}
		return x.text(n)
	})
}

// Print returns the text of a tree.
func Print(t api.Tree) (string, api.Errno) { return Text(t, 0) }
