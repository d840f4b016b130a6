package run_test

import (
	"math/rand"
	"strconv"
	"strings"
	"testing"

	"riposte/api"
	"riposte/check"
	"riposte/parse"
	"riposte/play"
)

// known is a declaration that is in sight where a term is written.
type known struct {
	name    string
	isLabel bool
	isCell  bool // a NewNode
	params  []api.Type
	result  api.Base
}

// typ returns the type of a declaration, if its params are bases.
func (x known) typ() (api.Type, bool) {
	t := api.Type{Result: x.result}
	for _, p := range x.params {
		if len(p.Params) > 0 {
			return t, false
		}
		t.Params = append(t.Params, p.Result)
	}
	return t, true
}

// writer writes random programs without errors.
type writer struct {
	r     *rand.Rand
	names int
	sight []known
}

func number(n int) api.Base { return api.Base{N: n} }

func cell(n int) api.Base { return api.Base{Cell: true, N: n} }

func (w *writer) size() int { return pick(w.r, 1, 1, 1, 2, 2, 2, 3, 3, 5) }

func (w *writer) name() string {
	w.names++
	return "v" + strconv.Itoa(w.names)
}

// find returns a random declaration in sight that is right for something.
func (w *writer) find(isRight func(known) bool) (known, bool) {
	var l []known
	for _, x := range w.sight {
		if isRight(x) {
			l = append(l, x)
		}
	}
	if len(l) == 0 {
		return known{}, false
	}
	return pick(w.r, l...), true
}

// base returns a declaration with a base type.
func (w *writer) base(b api.Base) (string, bool) {
	x, ok := w.find(func(x known) bool { return !x.isLabel && len(x.params) == 0 && x.result == b })
	return x.name, ok
}

// with writes something where more declarations are in sight.
func (w *writer) with(l []known, write func() string) string {
	before := len(w.sight)
	w.sight = append(w.sight, l...)
	s := write()
	w.sight = w.sight[:before]
	return s
}

// num writes a number.
func num(n int) string { return strconv.Itoa(n) }

// leaf writes a term of a size without kids.
func (w *writer) leaf(size int) string {
	if s, ok := w.base(number(size)); ok && w.r.Intn(3) > 0 {
		return s
	}
	if s, ok := w.base(cell(size)); ok && w.r.Intn(3) > 0 {
		return "!" + s
	}
	label, ok := w.find(func(x known) bool { return x.isLabel })
	switch {
	case ok && size == 1 && w.r.Intn(2) == 0:
		return "jump " + label.name
	case size == 1 && w.r.Intn(15) == 0:
		return "hang"
	case size == 1 && w.r.Intn(2) == 0:
		return "skip"
	case size == 2 && w.r.Intn(2) == 0:
		return pick(w.r, "true", "false")
	}
	return num(w.r.Intn(size))
}

// sized writes a term that has an own size.
func (w *writer) sized(size, depth int) string {
	if s, ok := w.base(cell(size)); ok && w.r.Intn(3) == 0 {
		return "!" + s
	}
	if s, ok := w.base(number(size)); ok && w.r.Intn(2) == 0 {
		return s
	}
	return "(" + w.cast(size, depth) + ")"
}

// cast writes a term that becomes one of a size.
func (w *writer) cast(size, depth int) string {
	if depth <= 0 || w.r.Intn(4) == 0 {
		return num(w.r.Intn(9)) + " as " + num(size)
	}
	return w.sized(w.size(), depth-1) + " as " + num(size)
}

// term writes a term of a size.
func (w *writer) term(size, depth int) string {
	if depth <= 0 {
		return w.leaf(size)
	}
	depth--
	switch w.r.Intn(14) {
	case 0, 1:
		return "(" + w.term(1, depth) + ";" + w.term(size, depth) + ")"
	case 2:
		return "(if " + w.sized(w.size(), depth) + " then " + w.term(size, depth) + " else " + w.term(size, depth) + ")"
	case 3:
		return "(" + w.term(size, depth) + pick(w.r, "+", "-", "*") + w.term(size, depth) + ")"
	case 4:
		return w.newCell(size, depth)
	case 5:
		return w.label(size, depth)
	case 6:
		return w.notice(size, depth)
	case 7, 8, 9:
		return w.call(size, depth)
	case 10:
		return "(choose " + w.term(size, depth) + " else " + w.term(size, depth) + ")"
	case 11:
		return "(" + w.cast(size, depth) + ")"
	}
	return w.ofSize(size, depth)
}

// ofSize writes a term of a kind that has this size alone.
func (w *writer) ofSize(size, depth int) string {
	switch {
	case size == 1 && w.r.Intn(3) == 0:
		return "(while " + w.sized(w.size(), depth) + " do " + w.term(1, depth) + ")"
	case size == 1:
		cell, ok := w.find(func(x known) bool { return x.result.Cell && !x.isLabel && len(x.params) == 0 })
		if ok {
			return "(" + cell.name + ":=" + w.term(cell.result.N, depth) + ")"
		}
	case size == 2:
		k := w.size()
		return pick(w.r,
			"("+w.term(2, depth)+" or "+w.term(2, depth)+")",
			"("+w.term(2, depth)+" and "+w.term(2, depth)+")",
			"(not "+w.term(2, depth)+")",
			"("+w.sized(k, depth)+"="+w.term(k, depth)+")",
			"("+w.term(k, depth)+"<"+w.sized(k, depth)+")")
	}
	return w.leaf(size)
}

func (w *writer) newCell(size, depth int) string {
	x := known{name: w.name(), isCell: true, result: cell(w.size())}
	kid := w.with([]known{x}, func() string { return w.term(size, depth) })
	return "(new " + x.name + ":" + num(x.result.N) + ":=" + num(w.r.Intn(x.result.N)) + " in " + kid + ")"
}

func (w *writer) label(size, depth int) string {
	x := known{name: w.name(), isLabel: true}
	kid := w.with([]known{x}, func() string { return w.term(size, depth) })
	return "(label " + x.name + " in " + kid + " else " + w.term(size, depth) + ")"
}

func (w *writer) notice(size, depth int) string {
	x, ok := w.find(func(x known) bool { return x.isCell })
	if !ok {
		return w.newCell(size, depth+1)
	}
	return "(notice " + x.name + ":=" + num(w.r.Intn(x.result.N)) + " in " + w.term(size, depth) + ")"
}

// call writes a call of something with a result of a size.
func (w *writer) call(size, depth int) string {
	x, ok := w.find(func(x known) bool { return len(x.params) > 0 && x.result == number(size) })
	if !ok {
		return w.sized(size, 0)
	}
	var l []string
	for _, p := range x.params {
		l = append(l, w.argument(p, depth))
	}
	return x.name + "(" + strings.Join(l, ",") + ")"
}

// calls writes a term behind calls of some of the things that are in sight.
func (w *writer) calls(term string) string {
	for range w.r.Intn(3) {
		size := w.size()
		term = w.call(size, 2) + " as " + num(size) + " as 1;" + term
	}
	return term
}

// argument writes an argument of a type.
func (w *writer) argument(p api.Type, depth int) string {
	if len(p.Params) == 0 && !p.Result.Cell {
		if s, ok := w.base(p.Result); ok && w.r.Intn(3) > 0 {
			return s
		}
		return w.term(p.Result.N, depth)
	}
	same, ok := w.find(func(x known) bool {
		y, typed := x.typ()
		return typed && !x.isLabel && typeText(y) == typeText(p)
	})
	if ok && w.r.Intn(3) > 0 {
		return same.name
	}
	if p.Result.Cell {
		x := known{name: w.name(), result: number(p.Result.N)}
		put := w.with([]known{x}, func() string { return w.term(1, depth) })
		return "{get " + w.term(p.Result.N, depth) + ";put " + x.name + "." + put + "}"
	}
	var l []known
	var names []string
	for _, b := range p.Params {
		x := known{name: w.name(), result: b}
		l, names = append(l, x), append(names, x.name)
	}
	return "fn(" + strings.Join(names, ",") + ")" + w.with(l, func() string { return w.term(p.Result.N, depth) })
}

func baseText(b api.Base) string {
	if b.Cell {
		return "cell " + num(b.N)
	}
	return "int " + num(b.N)
}

func typeText(t api.Type) string {
	if len(t.Params) == 0 {
		return baseText(t.Result)
	}
	var l []string
	for _, b := range t.Params {
		l = append(l, baseText(b))
	}
	return "(" + strings.Join(l, ",") + ")->" + baseText(t.Result)
}

// typ returns a random type.
func (w *writer) typ() api.Type {
	base := func() api.Base { return api.Base{Cell: w.r.Intn(3) == 0, N: w.size()} }
	if w.r.Intn(2) == 0 {
		return api.Type{Result: base()}
	}
	t := api.Type{Result: number(w.size())}
	for range 1 + w.r.Intn(2) {
		t.Params = append(t.Params, base())
	}
	return t
}

// item writes a def or an export.
func (w *writer) item(word, name string, params int) string {
	x := known{name: name, result: number(w.size())}
	var l []known
	var texts []string
	for range params {
		p := known{name: w.name()}
		t := w.typ()
		p.result = t.Result
		for _, b := range t.Params {
			p.params = append(p.params, api.Type{Result: b})
		}
		l, texts = append(l, p), append(texts, p.name+":"+typeText(t))
		x.params = append(x.params, t)
	}
	term := w.with(l, func() string { return w.calls(w.term(x.result.N, 1+w.r.Intn(4))) })
	if word == "def" {
		w.sight = append(w.sight, x)
	}
	return word + " " + name + "(" + strings.Join(texts, ",") + "):" + baseText(x.result) + "=" + term + ";"
}

// program writes a random program, whose export is m.
func (w *writer) program() string {
	var s string
	for range 1 + w.r.Intn(4) {
		x := known{name: w.name()}
		t := w.typ()
		x.result = t.Result
		for _, b := range t.Params {
			x.params = append(x.params, api.Type{Result: b})
		}
		w.sight = append(w.sight, x)
		s += "import " + x.name + ":" + typeText(t) + ";"
	}
	for range w.r.Intn(4) {
		s += w.item("def", w.name(), w.r.Intn(3))
	}
	return s + w.item("export", "m", w.r.Intn(4))
}

// randomTree returns a random program that has no error.
func randomTree(t *testing.T, r *rand.Rand) api.Tree {
	t.Helper()
	for {
		w := &writer{r: r}
		s := w.program()
		x, at, e := parse.Parse(s)
		if e == api.ErrLimit {
			continue
		}
		if e != api.OK {
			t.Fatalf("Parse of %s: %d, %v", s, at, e)
		}
		if n, e := check.Program(x); e != api.OK {
			t.Fatalf("Program of %s: %d, %v", s, x.Nodes[n].At, e)
		}
		return x
	}
}

// randomSession returns a random session with the empty word.
func randomSession(t *testing.T, r *rand.Rand) api.Session {
	t.Helper()
	x := api.Session{T: randomTree(t, r), Export: "m", Jumps: r.Intn(3) == 0}
	for range r.Intn(6) {
		x.Picks = append(x.Picks, r.Intn(5)-1)
	}
	return x
}

// heard returns a word with a random move of the other one; questions of arguments come often, jumps seldom.
func heard(t *testing.T, r *rand.Rand, a api.Arena, w api.Word) api.Word {
	t.Helper()
	l, e := play.Next(a, w)
	if e != api.OK || len(l) == 0 {
		t.Fatalf("Next of %s: %v, %v", text(t, w), l, e)
	}
	m := pick(r, l...)
	for range 2 {
		if isEsc(m) && r.Intn(3) > 0 || m.Kind == api.MoveTell && r.Intn(3) == 0 && len(w) < 40 {
			m = pick(r, l...)
		}
	}
	return append(w[:len(w):len(w)], m)
}
