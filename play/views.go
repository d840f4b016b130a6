package play

import (
	"slices"

	"riposte/api"
)

// mover returns whose the last move is, if there is one.
func (t talk) mover() uint8 {
	switch n := len(t.word); {
	case n == 0:
		return 0
	case n%2 == 1: // the other one begins
		return api.TurnOther
	}
	return api.TurnProgram
}

// before returns the move that stands before another one in a view: of a forced one the jump that it goes on with, of others the justifier.
func (t talk) before(n int) int {
	if t.isForced(n) {
		return n - 1
	}
	return t.justifiers[n]
}

// back yields the moves of the view of the side that did not move last, the last one first: the last one, the one before it, and the view of what came before that. Both sides' views are made so, since the program's moves are never forced, and its questions of identifiers hang on the first move.
func (t talk) back(yield func(int) bool) {
	for n := len(t.word) - 1; n >= 0; {
		before := t.before(n)
		if !yield(n) || before == none || !yield(before) {
			return
		}
		n = before - 1
	}
}

// seen returns the numbers that back yields, ascending, if the last move is of one side.
func (t talk) seen(mover uint8) ([]int, api.Errno) {
	if t.mover() != mover {
		return nil, api.ErrState
	}
	l := slices.Collect(t.back)
	slices.Reverse(l)
	return l, api.OK
}
