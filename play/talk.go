package play

import (
	"slices"

	"riposte/api"
	"riposte/arena"
)

// none is the number where there is no move.
const none = -1

// stack are the open questions, by their numbers in the word, and how many there were at one time at most.
type stack struct {
	open []int
	most int
}

func (s *stack) push(n int) {
	s.open = append(s.open, n)
	s.most = max(s.most, len(s.open))
}

func (s *stack) pop() int {
	n := s.last()
	s.open = s.open[:len(s.open)-1]
	return n
}

// last returns the number of the last open question.
func (s *stack) last() int {
	if len(s.open) == 0 {
		return none
	}
	return s.open[len(s.open)-1]
}

// talk is a legal word in an arena, with what is known of it. The word is memory of its own.
type talk struct {
	api.Arena
	stack
	word                 api.Word
	partners, justifiers []int
	lost                 bool
}

// follow returns the talk of a word; if this is not legal, that of its longest beginning that is.
func follow(a api.Arena, w api.Word) (talk, api.Errno) {
	if e := arena.Check(a); e != api.OK {
		return talk{}, e
	}
	if len(w) > api.MaxWord {
		return talk{}, api.ErrLimit
	}
	t := talk{Arena: a}
	for _, m := range w {
		if has, _ := arena.Has(a, m); !has || !t.allows(m) {
			return t, api.ErrOdd
		}
		t.add(m)
	}
	return t, api.OK
}

// isCalled tells whether a move is of an identifier itself: the program asks it, and the other one answers.
func isCalled(m api.Move) bool { return m.Id != 0 && m.Arg == 0 }

// answer returns the answer n of a question.
func answer(q api.Move, n int) api.Move {
	return api.Move{Id: q.Id, Arg: q.Arg, Kind: api.MoveTell, N: n}
}

// isEsc tells whether a move is an answer by a jump.
func isEsc(m api.Move) bool { return m == answer(m, api.Esc) }

// top returns the last open question, if there is one.
func (t talk) top() (api.Move, bool) {
	n := t.last()
	if n == none {
		return api.Move{}, false
	}
	return t.word[n], true
}

// isForced tells whether a move, or the next one, must be the jump that goes on after one out of an argument.
func (t talk) isForced(n int) bool {
	return n > 0 && isEsc(t.word[n-1]) && t.word[n-1].Arg != 0
}

// mustJump tells whether the next move must be Esc of the top.
func (t talk) mustJump() bool { return t.lost || t.isForced(len(t.word)) }

// allows tells whether a move of the arena can come next.
func (t talk) allows(m api.Move) bool {
	top, open := t.top()
	switch {
	case len(t.word) == 0:
		return m.Id == 0 && m.Kind != api.MoveTell
	case !open:
		return false
	case t.mustJump():
		return m == answer(top, api.Esc)
	case m.Kind == api.MoveTell:
		return m == answer(top, m.N) && t.canTell(top, m.N)
	case isCalled(top):
		return m.Id == top.Id && m.Arg != 0
	}
	return isCalled(m)
}

// canTell tells whether a number can be the answer of a question where no jump must be.
func (t talk) canTell(q api.Move, n int) bool {
	if n != api.Esc {
		return q.Kind == api.MoveAsk || n == 0
	}
	return q.Arg != 0 || isCalled(q) && t.Jumps
}

// add puts a move that can come behind the word.
func (t *talk) add(m api.Move) {
	n := len(t.word)
	if isEsc(m) && isCalled(m) && !t.isForced(n) {
		t.lost = true
	}
	by, partner := t.allower(m), none
	if m.Kind == api.MoveTell {
		partner = t.pop()
		t.partners[partner] = n
	} else {
		t.push(n)
	}
	t.word = append(t.word, m)
	t.partners = append(t.partners, partner)
	t.justifiers = append(t.justifiers, by)
}

// allower returns the number of the move that justifies a move that can come.
func (t talk) allower(m api.Move) int {
	if m.Kind != api.MoveTell && isCalled(m) {
		return 0
	}
	return t.last()
}

// turn returns whose turn it is.
func (t talk) turn() uint8 {
	switch top, open := t.top(); {
	case !open && len(t.word) > 0:
		return api.TurnOver
	case !open || isCalled(top):
		return api.TurnOther
	}
	return api.TurnProgram
}

func (t talk) stand() (api.Stand, api.Errno) {
	return api.Stand{Turn: t.turn(), Open: t.open, Forced: t.isForced(len(t.word)), Lost: t.lost}, api.OK
}

// next returns the moves that can come.
func (t talk) next() ([]api.Move, api.Errno) {
	l, e := arena.Moves(t.Arena)
	cannot := func(m api.Move) bool { return !t.allows(m) }
	return slices.DeleteFunc(l, cannot), e
}

// closed returns the close of the word.
func (t talk) closed() (api.Word, api.Errno) {
	if len(t.word) == 0 {
		t.add(api.Move{Kind: api.MoveAsk})
	}
	if len(t.word)+len(t.open) > api.MaxWord {
		return nil, api.ErrLimit
	}
	for top, open := t.top(); open; top, open = t.top() {
		n := 0
		if t.mustJump() {
			n = api.Esc
		}
		t.add(answer(top, n))
	}
	return t.word, api.OK
}
