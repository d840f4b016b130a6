package arena

import (
	"slices"

	"riposte/api"
)

// right is an arena that is right.
type right struct{ api.Arena }

// place is a place of an arena: its base type, its numbers, and whether an answer by a jump can come there.
type place struct {
	api.Base
	id, arg int
	jumps   bool
}

// places yields the places of an arena, ascending.
func (a right) places(yield func(place) bool) {
	if !yield(place{a.Root, 0, 0, a.Jumps}) {
		return
	}
	for i, t := range a.Ids {
		// What an identifier asks can jump, and then the identifier itself is left.
		if !yield(place{t.Result, i + 1, 0, a.Jumps || len(t.Params) > 0}) {
			return
		}
		for j, b := range t.Params {
			if !yield(place{b, i + 1, j + 1, true}) {
				return
			}
		}
	}
}

// find returns the first place of which something is so.
func (a right) find(isSo func(place) bool) (place, bool) {
	for p := range a.places {
		if isSo(p) {
			return p, true
		}
	}
	return place{}, false
}

// moves returns some moves of each place of which something is so.
func (a right) moves(isSo func(place) bool, some func(place, func(api.Move) bool)) []api.Move {
	var l []api.Move
	add := func(m api.Move) bool {
		l = append(l, m)
		return true
	}
	for p := range a.places {
		if isSo(p) {
			some(p, add)
		}
	}
	return l
}

func (a right) has(m api.Move) bool {
	p, ok := a.find(at(m.Id, m.Arg))
	return ok && p.has(m)
}

func anywhere(place) bool { return true }

// at returns whether a place is that of an identifier and a parameter.
func at(id, arg int) func(place) bool {
	return func(p place) bool { return p.id == id && p.arg == arg }
}

// under returns whether the questions of a place are allowed by those of another one.
func under(q place) func(place) bool {
	if q.isCalled() {
		return func(p place) bool { return p.id == q.id && p.arg != 0 }
	}
	return place.isCalled
}

// isCalled tells whether a place is an identifier itself: the one that the program asks.
func (p place) isCalled() bool { return p.id != 0 && p.arg == 0 }

func (p place) has(m api.Move) bool {
	for x := range p.moves {
		if x == m {
			return true
		}
	}
	return false
}

func (p place) move(kind uint8, n int) api.Move {
	return api.Move{Id: p.id, Arg: p.arg, Kind: kind, N: n}
}

// moves yields the moves of a place, ascending. Each answer of a MovePut is one of a MoveAsk, too.
func (p place) moves(yield func(api.Move) bool) {
	for m := range p.questions {
		if !yield(m) {
			return
		}
	}
	p.told(yield)
}

// questions yields the questions of a place, ascending.
func (p place) questions(yield func(api.Move) bool) {
	if yield(p.move(api.MoveAsk, 0)) && p.Cell {
		p.below(p.N, api.MovePut, yield)
	}
}

// told yields the answers of a MoveAsk, ascending.
func (p place) told(yield func(api.Move) bool) { p.answers(p.N, yield) }

// done yields the answers of a MovePut, ascending.
func (p place) done(yield func(api.Move) bool) { p.answers(1, yield) }

func (p place) answers(many int, yield func(api.Move) bool) {
	if !p.jumps || yield(p.move(api.MoveTell, api.Esc)) {
		p.below(many, api.MoveTell, yield)
	}
}

// below yields the moves of a kind with each value below a number.
func (p place) below(many int, kind uint8, yield func(api.Move) bool) {
	for n := range many {
		if !yield(p.move(kind, n)) {
			return
		}
	}
}

func isRightBase(b api.Base) bool { return b.N >= 1 && b.N <= api.MaxSize }

func isRightType(t api.Type) bool {
	if t.Result.Cell && len(t.Params) > 0 {
		return false
	}
	wrong := func(b api.Base) bool { return !isRightBase(b) }
	return isRightBase(t.Result) && !slices.ContainsFunc(t.Params, wrong)
}

func hasTooManyParams(t api.Type) bool { return len(t.Params) > api.MaxParams }
