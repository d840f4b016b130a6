package core

import (
	"slices"

	"riposte/api"
)

// spot is where a term stands, and what is in sight there.
type spot struct {
	api.Arena
	forms  []form
	rules  map[uint8]rule
	seen   []api.Base // the Results of the arena's identifiers, then the cell of each TermNew, and the value of each TermObject, around it
	labels int
}

// rule returns what a term is by what its kids are.
type rule func(s spot, t api.Term, kids []api.Base) api.Base

func newSpot(a api.Arena) spot {
	s := spot{Arena: a, forms: forms(), rules: termRules()}
	for _, t := range a.Ids {
		s.seen = append(s.seen, t.Result)
	}
	return s
}

// termRules returns the rule of each kind of terms.
func termRules() map[uint8]rule {
	return map[uint8]rule{
		api.TermNum:    spot.number,
		api.TermUse:    spot.use,
		api.TermGet:    spot.get,
		api.TermPut:    spot.put,
		api.TermOp:     spot.operation,
		api.TermAs:     spot.as,
		api.TermSeq:    spot.seq,
		api.TermIf:     spot.ifElse,
		api.TermWhile:  spot.while,
		api.TermNew:    spot.newCell,
		api.TermLabel:  spot.either,
		api.TermJump:   spot.jump,
		api.TermChoose: spot.either,
		api.TermHang:   spot.hang,
		api.TermVal:    spot.value,
		api.TermCell:   spot.cell,
		api.TermObject: spot.object,
		api.TermNotice: spot.notice,
	}
}

// is returns what a term is: an integer of its size, or, if it is an argument for a cell, this. A term that is not right is nothing, which is the base type of no arena.
func (s spot) is(t api.Term) api.Base {
	f, ok := formOf(s.forms, t)
	if !ok || !f.fits(t) {
		return api.Base{}
	}
	var kids []api.Base
	for _, x := range t.Kids {
		b := s.inside(t, kids).is(x)
		if b.N == 0 || b.Cell && t.Kind != api.TermUse {
			return api.Base{}
		}
		kids = append(kids, b)
	}
	return s.rules[t.Kind](s, t, kids)
}

// inside returns where the kid of a term stands that comes behind some kids.
func (s spot) inside(t api.Term, before []api.Base) spot {
	switch {
	case t.Kind == api.TermNew:
		s.seen = append(slices.Clip(s.seen), api.Base{Cell: true, N: t.N})
	case t.Kind == api.TermLabel && len(before) == 0:
		s.labels++
	case t.Kind == api.TermObject && len(before) == 1:
		s.seen = append(slices.Clip(s.seen), before[0])
	}
	return s
}

// base returns the base type of what is in sight by a number. No identifier with Params is a cell.
func (s spot) base(id int) api.Base {
	if id < 1 || id > len(s.seen) {
		return api.Base{}
	}
	return s.seen[id-1]
}

// isOuter tells whether a number is that of an identifier of the arena.
func (s spot) isOuter(id int) bool { return id > 0 && id <= len(s.Ids) }

// integer returns an integer, if something is so; cellOf a cell.
func integer(size int, isSo bool) api.Base {
	if !isSo {
		return api.Base{}
	}
	return api.Base{N: size}
}

func cellOf(size int, isSo bool) api.Base {
	if !isSo {
		return api.Base{}
	}
	return api.Base{Cell: true, N: size}
}

func isSize(n int) bool { return n > 0 && n <= api.MaxSize }

func isBelow(n, size int) bool { return n >= 0 && n < size }

func (s spot) number(t api.Term, _ []api.Base) api.Base {
	return integer(t.M, isSize(t.M) && isBelow(t.N, t.M))
}

func (s spot) use(t api.Term, kids []api.Base) api.Base {
	if !s.isOuter(t.Id) {
		return api.Base{}
	}
	x := s.Ids[t.Id-1]
	return integer(x.Result.N, !x.Result.Cell && slices.Equal(kids, x.Params))
}

func (s spot) get(t api.Term, _ []api.Base) api.Base {
	b := s.base(t.Id)
	return integer(b.N, b.Cell)
}

func (s spot) put(t api.Term, kids []api.Base) api.Base {
	b := s.base(t.Id)
	return integer(1, b.Cell && kids[0].N == b.N)
}

func (s spot) operation(t api.Term, kids []api.Base) api.Base {
	size := t.M
	if t.N == api.OpEq || t.N == api.OpLess {
		size = 2
	}
	return integer(size, kids[0].N == t.M && kids[1].N == t.M)
}

func (s spot) as(t api.Term, _ []api.Base) api.Base { return integer(t.N, isSize(t.N)) }

func (s spot) seq(_ api.Term, kids []api.Base) api.Base { return integer(kids[1].N, kids[0].N == 1) }

func (s spot) ifElse(_ api.Term, kids []api.Base) api.Base {
	return integer(kids[1].N, kids[1] == kids[2])
}

func (s spot) while(_ api.Term, kids []api.Base) api.Base { return integer(1, kids[1].N == 1) }

func (s spot) newCell(t api.Term, kids []api.Base) api.Base {
	return integer(kids[0].N, isSize(t.N) && isBelow(t.M, t.N))
}

// either is the rule of terms that are what both their kids are.
func (s spot) either(_ api.Term, kids []api.Base) api.Base {
	return integer(kids[0].N, kids[0] == kids[1])
}

func (s spot) jump(t api.Term, _ []api.Base) api.Base { return integer(1, isBelow(t.N, s.labels)) }

func (s spot) hang(api.Term, []api.Base) api.Base { return integer(1, true) }

func (s spot) notice(t api.Term, kids []api.Base) api.Base {
	b := s.base(t.Id)
	return integer(kids[0].N, !s.isOuter(t.Id) && b.Cell && isBelow(t.N, b.N))
}

func (s spot) value(t api.Term, _ []api.Base) api.Base {
	b := s.base(t.Id)
	return integer(b.N, !s.isOuter(t.Id) && !b.Cell)
}

// cell is the rule of a TermCell, object that of a TermObject.
func (s spot) cell(t api.Term, _ []api.Base) api.Base {
	b := s.base(t.Id)
	return cellOf(b.N, b.Cell)
}

func (s spot) object(_ api.Term, kids []api.Base) api.Base {
	return cellOf(kids[0].N, kids[1].N == 1)
}
