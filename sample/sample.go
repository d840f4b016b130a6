// Package sample writes programs for the tests of other packages: programs without errors, in which all kinds of nodes come.
package sample

import (
	"strconv"
	"strings"

	"riposte/api"
	"riposte/parse"
)

// known is a declaration that is in sight where a term is written.
type known struct {
	name    string
	isLabel bool
	isCell  bool // a NewNode
	params  []api.Type
	result  api.Base
}

// typ returns the type of a declaration, if its params are bases.
func (x known) typ() (api.Type, bool) {
	t := api.Type{Result: x.result}
	for _, p := range x.params {
		if len(p.Params) > 0 {
			return t, false
		}
		t.Params = append(t.Params, p.Result)
	}
	return t, true
}

// declared returns a declaration with a type.
func declared(name string, t api.Type) known {
	x := known{name: name, result: t.Result}
	for _, b := range t.Params {
		x.params = append(x.params, api.Type{Result: b})
	}
	return x
}

// writer writes a program. What it writes is said by the numbers that pick returns, from 0 up to, but not with, another one.
type writer struct {
	pick  func(n int) int
	names int
	sight []known
}

// Tree returns the tree of a program without errors, whose export is m. Which one this is hangs on the numbers that pick returns, each from 0 up to, but not with, the one that it is handed.
func Tree(pick func(n int) int) api.Tree {
	for {
		// Some are too long.
		if x, _, e := parse.Parse(Program(pick)); e != api.ErrLimit {
			return x
		}
	}
}

// Program returns the text of such a program, which may be too long for a tree.
func Program(pick func(n int) int) string {
	w := &writer{pick: pick}
	var s string
	for range 1 + w.pick(4) {
		x, t := w.declaration()
		w.sight = append(w.sight, x)
		s += "import " + x.name + ":" + typeText(t) + ";"
	}
	for range w.pick(4) {
		s += w.item("def", w.name(), w.pick(3))
	}
	return s + w.item("export", "m", w.pick(4))
}

// declaration returns a declaration with a new name and a random type.
func (w *writer) declaration() (known, api.Type) {
	name := w.name()
	t := w.typ()
	return declared(name, t), t
}

// item writes a def or an export.
func (w *writer) item(word, name string, params int) string {
	x := known{name: name, result: integer(w.size())}
	var l []known
	var texts []string
	for range params {
		p, t := w.declaration()
		l, texts = append(l, p), append(texts, p.name+":"+typeText(t))
		x.params = append(x.params, t)
	}
	term := w.with(l, func() string { return w.calls(w.term(x.result.N, 1+w.pick(4))) })
	if word == "def" {
		w.sight = append(w.sight, x)
	}
	return word + " " + name + "(" + strings.Join(texts, ",") + "):" + baseText(x.result) + "=" + term + ";"
}

// typ returns a random type.
func (w *writer) typ() api.Type {
	base := func() api.Base { return api.Base{Cell: w.pick(3) == 0, N: w.size()} }
	if w.pick(2) == 0 {
		return api.Type{Result: base()}
	}
	t := api.Type{Result: integer(w.size())}
	for range 1 + w.pick(2) {
		t.Params = append(t.Params, base())
	}
	return t
}

func integer(n int) api.Base { return api.Base{N: n} }

func cell(n int) api.Base { return api.Base{Cell: true, N: n} }

// one returns one of some things.
func one[T any](w *writer, l ...T) T { return l[w.pick(len(l))] }

// size returns the size of an integer; small ones come often.
func (w *writer) size() int { return one(w, 1, 1, 1, 2, 2, 2, 3, 3, 5) }

// name returns a name that nothing has yet.
func (w *writer) name() string {
	w.names++
	return "v" + number(w.names)
}

// find returns a declaration in sight that is right for something, if there is one.
func (w *writer) find(isRight func(known) bool) (known, bool) {
	var l []known
	for _, x := range w.sight {
		if isRight(x) {
			l = append(l, x)
		}
	}
	if len(l) == 0 {
		return known{}, false
	}
	return one(w, l...), true
}

// base returns the name of a declaration with a base type.
func (w *writer) base(b api.Base) (string, bool) {
	x, ok := w.find(func(x known) bool { return !x.isLabel && len(x.params) == 0 && x.result == b })
	return x.name, ok
}

// with writes something where more declarations are in sight.
func (w *writer) with(l []known, write func() string) string {
	before := len(w.sight)
	w.sight = append(w.sight, l...)
	s := write()
	w.sight = w.sight[:before]
	return s
}

// number returns the text of a number.
func number(n int) string { return strconv.Itoa(n) }

func baseText(b api.Base) string {
	if b.Cell {
		return "cell " + number(b.N)
	}
	return "int " + number(b.N)
}

func typeText(t api.Type) string {
	if len(t.Params) == 0 {
		return baseText(t.Result)
	}
	var l []string
	for _, b := range t.Params {
		l = append(l, baseText(b))
	}
	return "(" + strings.Join(l, ",") + ")->" + baseText(t.Result)
}
