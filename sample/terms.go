package sample

import (
	"strings"

	"riposte/api"
)

// leaf writes a term of a size without kids.
func (w *writer) leaf(size int) string {
	if s, ok := w.base(integer(size)); ok && w.pick(3) > 0 {
		return s
	}
	if s, ok := w.base(cell(size)); ok && w.pick(3) > 0 {
		return "!" + s
	}
	label, ok := w.find(func(x known) bool { return x.isLabel })
	switch {
	case ok && size == 1 && w.pick(2) == 0:
		return "jump " + label.name
	case size == 1 && w.pick(15) == 0:
		return "hang"
	case size == 1 && w.pick(2) == 0:
		return "skip"
	case size == 2 && w.pick(2) == 0:
		return one(w, "true", "false")
	}
	return number(w.pick(size))
}

// sized writes a term that has an own size.
func (w *writer) sized(size, depth int) string {
	if s, ok := w.base(cell(size)); ok && w.pick(3) == 0 {
		return "!" + s
	}
	if s, ok := w.base(integer(size)); ok && w.pick(2) == 0 {
		return s
	}
	return "(" + w.cast(size, depth) + ")"
}

// cast writes a term that becomes one of a size.
func (w *writer) cast(size, depth int) string {
	if depth <= 0 || w.pick(4) == 0 {
		return number(w.pick(9)) + " as " + number(size)
	}
	return w.sized(w.size(), depth-1) + " as " + number(size)
}

// term writes a term of a size.
func (w *writer) term(size, depth int) string {
	if depth <= 0 {
		return w.leaf(size)
	}
	depth--
	switch w.pick(14) {
	case 0, 1:
		return "(" + w.term(1, depth) + ";" + w.term(size, depth) + ")"
	case 2:
		return "(if " + w.sized(w.size(), depth) + " then " + w.term(size, depth) + " else " + w.term(size, depth) + ")"
	case 3:
		return "(" + w.term(size, depth) + one(w, "+", "-", "*") + w.term(size, depth) + ")"
	case 4:
		return w.newCell(size, depth)
	case 5:
		return w.label(size, depth)
	case 6:
		return w.notice(size, depth)
	case 7, 8, 9:
		return w.call(size, depth)
	case 10:
		return "(choose " + w.term(size, depth) + " else " + w.term(size, depth) + ")"
	case 11:
		return "(" + w.cast(size, depth) + ")"
	}
	return w.ofSize(size, depth)
}

// ofSize writes a term of a kind that has this size alone.
func (w *writer) ofSize(size, depth int) string {
	switch {
	case size == 1 && w.pick(3) == 0:
		return "(while " + w.sized(w.size(), depth) + " do " + w.term(1, depth) + ")"
	case size == 1:
		cell, ok := w.find(func(x known) bool { return x.result.Cell && !x.isLabel && len(x.params) == 0 })
		if ok {
			return "(" + cell.name + ":=" + w.term(cell.result.N, depth) + ")"
		}
	case size == 2:
		return w.truth(depth)
	}
	return w.leaf(size)
}

// truth writes a term that tells whether something is so.
func (w *writer) truth(depth int) string {
	size := w.size()
	switch w.pick(5) {
	case 0:
		return "(" + w.term(2, depth) + " or " + w.term(2, depth) + ")"
	case 1:
		return "(" + w.term(2, depth) + " and " + w.term(2, depth) + ")"
	case 2:
		return "(not " + w.term(2, depth) + ")"
	case 3:
		return "(" + w.sized(size, depth) + "=" + w.term(size, depth) + ")"
	}
	return "(" + w.term(size, depth) + "<" + w.sized(size, depth) + ")"
}

func (w *writer) newCell(size, depth int) string {
	x := known{name: w.name(), isCell: true, result: cell(w.size())}
	kid := w.with([]known{x}, func() string { return w.term(size, depth) })
	return "(new " + x.name + ":" + number(x.result.N) + ":=" + number(w.pick(x.result.N)) + " in " + kid + ")"
}

func (w *writer) label(size, depth int) string {
	x := known{name: w.name(), isLabel: true}
	kid := w.with([]known{x}, func() string { return w.term(size, depth) })
	return "(label " + x.name + " in " + kid + " else " + w.term(size, depth) + ")"
}

func (w *writer) notice(size, depth int) string {
	x, ok := w.find(func(x known) bool { return x.isCell })
	if !ok {
		return w.newCell(size, depth+1)
	}
	return "(notice " + x.name + ":=" + number(w.pick(x.result.N)) + " in " + w.term(size, depth) + ")"
}

// call writes a call of something with a result of a size.
func (w *writer) call(size, depth int) string {
	x, ok := w.find(func(x known) bool { return len(x.params) > 0 && x.result == integer(size) })
	if !ok {
		return w.sized(size, 0)
	}
	var l []string
	for _, p := range x.params {
		l = append(l, w.argument(p, depth))
	}
	return x.name + "(" + strings.Join(l, ",") + ")"
}

// calls writes a term behind calls of some of the things that are in sight.
func (w *writer) calls(term string) string {
	for range w.pick(3) {
		size := w.size()
		term = w.call(size, 2) + " as " + number(size) + " as 1;" + term
	}
	return term
}

// argument writes an argument of a type.
func (w *writer) argument(p api.Type, depth int) string {
	if len(p.Params) == 0 && !p.Result.Cell {
		if s, ok := w.base(p.Result); ok && w.pick(3) > 0 {
			return s
		}
		return w.term(p.Result.N, depth)
	}
	same, ok := w.find(func(x known) bool {
		t, typed := x.typ()
		return typed && !x.isLabel && typeText(t) == typeText(p)
	})
	if ok && w.pick(3) > 0 {
		return same.name
	}
	if p.Result.Cell {
		return w.object(p.Result.N, depth)
	}
	return w.function(p, depth)
}

// object writes a cell by what it does when it is asked, and put.
func (w *writer) object(size, depth int) string {
	x := known{name: w.name(), result: integer(size)}
	put := w.with([]known{x}, func() string { return w.term(1, depth) })
	return "{get " + w.term(size, depth) + ";put " + x.name + "." + put + "}"
}

// function writes an argument with params.
func (w *writer) function(p api.Type, depth int) string {
	var l []known
	var names []string
	for _, b := range p.Params {
		x := known{name: w.name(), result: b}
		l, names = append(l, x), append(names, x.name)
	}
	return "fn(" + strings.Join(names, ",") + ")" + w.with(l, func() string { return w.term(p.Result.N, depth) })
}
