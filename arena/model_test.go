package arena_test

import (
	"slices"
	"testing"

	"riposte/api"
	"riposte/arena"
)

// This file has a slow model of the chapter: what is so of a move is asked of every move of a box of numbers that is greater than any arena.

// baseAt returns the base type of a place, if there is one.
func baseAt(a api.Arena, id, arg int) (api.Base, bool) {
	switch {
	case id == 0 && arg == 0:
		return a.Root, true
	case id < 1 || id > len(a.Ids) || arg < 0 || arg > len(a.Ids[id-1].Params):
		return api.Base{}, false
	case arg == 0:
		return a.Ids[id-1].Result, true
	}
	return a.Ids[id-1].Params[arg-1], true
}

// isQuestion tells whether a move is a question of an arena.
func isQuestion(a api.Arena, m api.Move) bool {
	b, ok := baseAt(a, m.Id, m.Arg)
	if !ok {
		return false
	}
	return m.Kind == api.MoveAsk && m.N == 0 || m.Kind == api.MovePut && b.Cell && m.N >= 0 && m.N < b.N
}

// isAnswer tells whether a move is an answer of a question of an arena.
func isAnswer(a api.Arena, q, m api.Move) bool {
	if !isQuestion(a, q) || m.Kind != api.MoveTell || m.Id != q.Id || m.Arg != q.Arg {
		return false
	}
	b, _ := baseAt(a, m.Id, m.Arg)
	switch {
	case m.N != api.Esc && q.Kind == api.MoveAsk:
		return m.N >= 0 && m.N < b.N
	case m.N != api.Esc:
		return m.N == 0
	case m.Arg > 0 || a.Jumps:
		return true
	}
	return m.Id > 0 && len(a.Ids[m.Id-1].Params) > 0
}

// isUnder tells whether a question allows another one.
func isUnder(a api.Arena, q, m api.Move) bool {
	if !isQuestion(a, q) || !isQuestion(a, m) || m.Id == 0 {
		return false
	}
	if q.Id > 0 && q.Arg == 0 {
		return m.Id == q.Id && m.Arg > 0
	}
	return m.Arg == 0
}

// isOther tells whether a move of an arena is the other one's.
func isOther(m api.Move) bool {
	identifier := m.Id > 0 && m.Arg == 0
	if m.Kind == api.MoveTell {
		return identifier
	}
	return !identifier
}

// box are all moves with some numbers, ascending.
func box() []api.Move {
	var l []api.Move
	for id := -1; id <= api.MaxIds+1; id++ {
		for arg := -1; arg <= api.MaxParams+1; arg++ {
			for kind := range uint8(5) {
				for n := -2; n <= api.MaxSize; n++ {
					l = append(l, api.Move{Id: id, Arg: arg, Kind: kind, N: n})
				}
			}
		}
	}
	return l
}

// those returns the elements of which something is so.
func those[T any](l []T, isSo func(T) bool) []T {
	var out []T
	for _, x := range l {
		if isSo(x) {
			out = append(out, x)
		}
	}
	return out
}

// modelQuestions returns the questions of an arena.
func modelQuestions(a api.Arena, all []api.Move) []api.Move {
	return those(all, func(m api.Move) bool { return isQuestion(a, m) })
}

// modelMoves returns the moves of an arena.
func modelMoves(a api.Arena, all []api.Move) []api.Move {
	questions := modelQuestions(a, all)
	return those(all, func(m api.Move) bool {
		return isQuestion(a, m) || slices.ContainsFunc(questions, func(q api.Move) bool { return isAnswer(a, q, m) })
	})
}

// P4.2 to P4.5 and P4.11: what is told of all moves, right and wrong ones, is what the model says.
func TestModel(t *testing.T) {
	all := box()
	for i, a := range arenas(1, 30) {
		l := movesOf(t, a)
		want := modelMoves(a, all)
		if !slices.Equal(l, want) {
			t.Fatalf("Moves of %v: %v, not %v", a, l, want)
		}
		for _, m := range all {
			has := slices.Contains(want, m)
			if got, e := arena.Has(a, m); got != has || e != api.OK {
				t.Fatalf("Has of %v, %v: %v, %v", a, m, got, e)
			}
			other, e1 := arena.IsOther(a, m)
			answers, e2 := arena.Answers(a, m)
			under, e3 := arena.Under(a, m)
			switch {
			case !has && (e1 != api.ErrNone || e2 != api.ErrNone || e3 != api.ErrNone || other || len(answers) > 0 || len(under) > 0):
				t.Fatalf("%v of %v: %v, %v, %v", m, a, e1, e2, e3)
			case has && (e1 != api.OK || other != isOther(m)):
				t.Fatalf("IsOther of %v: %v, %v", m, other, e1)
			case has && m.Kind == api.MoveTell && (e2 != api.ErrArg || e3 != api.ErrArg || len(answers) > 0 || len(under) > 0):
				t.Fatalf("%v of %v: %v, %v", m, a, e2, e3)
			case has && m.Kind != api.MoveTell && (e2 != api.OK || e3 != api.OK):
				t.Fatalf("%v of %v: %v, %v", m, a, e2, e3)
			}
		}
		// What the questions of the greatest arenas say is looked at in some of them alone, as there are many.
		for k, q := range modelQuestions(a, want) {
			if len(want) > 500 && (k+i)%7 > 0 {
				continue
			}
			answers, _ := arena.Answers(a, q)
			under, _ := arena.Under(a, q)
			if !slices.Equal(answers, those(want, func(m api.Move) bool { return isAnswer(a, q, m) })) {
				t.Fatalf("Answers of %v, %v: %v", a, q, answers)
			}
			if !slices.Equal(under, those(want, func(m api.Move) bool { return isUnder(a, q, m) })) {
				t.Fatalf("Under of %v, %v: %v", a, q, under)
			}
		}
	}
}

// P4.6: the base types of all places, and of what is none, are what the model says.
func TestModelPlaces(t *testing.T) {
	for _, a := range arenas(2, 100) {
		for id := -2; id <= api.MaxIds+2; id++ {
			for arg := -2; arg <= api.MaxParams+2; arg++ {
				want, ok := baseAt(a, id, arg)
				b, e := arena.Place(a, id, arg)
				if b != want || (e == api.OK) != ok || !ok && e != api.ErrNone {
					t.Fatalf("Place of %v, %d, %d: %v, %v", a, id, arg, b, e)
				}
			}
		}
	}
}
