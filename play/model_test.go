package play_test

import (
	"slices"
	"testing"

	"riposte/api"
	"riposte/arena"
	"riposte/play"
)

// This file has a slow model of the chapter: each definition is asked anew of each beginning of a word.

func isEsc(m api.Move) bool { return m.Kind == api.MoveTell && m.N == api.Esc }

// ofCalled tells whether a move is of a place i, 0.
func ofCalled(m api.Move) bool { return m.Id > 0 && m.Arg == 0 }

// modelOpen returns the questions without an answer: from the end on, those for which no answer is left.
func modelOpen(w api.Word) []int {
	var l []int
	answers := 0
	for n, m := range slices.Backward(w) {
		switch {
		case m.Kind == api.MoveTell:
			answers++
		case answers > 0:
			answers--
		default:
			l = append(l, n)
		}
	}
	slices.Reverse(l)
	return l
}

// modelTop returns the number of the last open question, or -1.
func modelTop(w api.Word) int {
	l := modelOpen(w)
	if len(l) == 0 {
		return -1
	}
	return l[len(l)-1]
}

func modelForced(w api.Word) bool {
	return len(w) > 0 && isEsc(w[len(w)-1]) && w[len(w)-1].Arg > 0
}

func modelLost(w api.Word) bool {
	for n, m := range w {
		if isEsc(m) && ofCalled(m) && !modelForced(w[:n]) {
			return true
		}
	}
	return false
}

// modelNext returns what can come after a legal word, by the rules 1 to 6.
func modelNext(a api.Arena, w api.Word) []api.Move {
	if len(w) == 0 {
		all, _ := arena.Moves(a)
		return those(all, func(m api.Move) bool { return m.Id == 0 && m.Kind != api.MoveTell })
	}
	n := modelTop(w)
	if n < 0 {
		return nil
	}
	top := w[n]
	if modelForced(w) || modelLost(w) {
		return []api.Move{{Id: top.Id, Arg: top.Arg, Kind: api.MoveTell, N: api.Esc}}
	}
	answers, _ := arena.Answers(a, top)
	if top.Id == 0 || ofCalled(top) && !a.Jumps {
		answers = those(answers, func(m api.Move) bool { return !isEsc(m) })
	}
	under, _ := arena.Under(a, top)
	l := slices.Concat(answers, under)
	slices.SortFunc(l, func(x, y api.Move) int {
		if arena.Less(x, y) {
			return -1
		}
		return 1
	})
	return l
}

// modelOdd returns the number of the first move that cannot come, or -1.
func modelOdd(a api.Arena, w api.Word) int {
	for n, m := range w {
		if !slices.Contains(modelNext(a, w[:n]), m) {
			return n
		}
	}
	return -1
}

// modelPartner returns the question that an answer answers, or the answer of a question.
func modelPartner(w api.Word, n int) int {
	if w[n].Kind == api.MoveTell {
		return modelTop(w[:n])
	}
	for k := n + 1; k < len(w); k++ {
		if w[k].Kind == api.MoveTell && modelTop(w[:k]) == n {
			return k
		}
	}
	return -1
}

func modelJustifier(w api.Word, n int) int {
	switch m := w[n]; {
	case m.Kind == api.MoveTell:
		return modelPartner(w, n)
	case m.Id == 0:
		return -1
	case m.Arg == 0:
		return 0
	}
	return modelTop(w[:n])
}

// modelView returns the view of a word that ends with a move of the other one.
func modelView(w api.Word) []int {
	n := len(w) - 1
	switch {
	case w[n].Kind != api.MoveTell && w[n].Id == 0:
		return []int{n}
	case isEsc(w[n]) && modelForced(w[:n]):
		return append(modelView(w[:n-1]), n-1, n)
	}
	q := modelJustifier(w, n)
	return append(modelView(w[:q]), q, n)
}

// modelSight returns the other one's view of a word that ends with a move of the program.
func modelSight(w api.Word) []int {
	n := len(w) - 1
	if w[n].Arg == 0 {
		return []int{0, n}
	}
	q := modelPartner(w, n)
	return append(modelSight(w[:q]), q, n)
}

// modelTurn returns whose turn it is after a legal word.
func modelTurn(w api.Word) uint8 {
	n := modelTop(w)
	switch {
	case len(w) == 0:
		return api.TurnOther
	case n < 0:
		return api.TurnOver
	case ofCalled(w[n]):
		return api.TurnOther
	}
	return api.TurnProgram
}

// modelClose returns the close of a legal word.
func modelClose(a api.Arena, w api.Word) api.Word {
	if len(w) == 0 {
		w = api.Word{{Kind: api.MoveAsk}}
	}
	w = slices.Clone(w)
	for {
		n := modelTop(w)
		if n < 0 {
			return w
		}
		q := w[n]
		l := those(modelNext(a, w), func(m api.Move) bool { return m.Kind == api.MoveTell && m.Id == q.Id && m.Arg == q.Arg })
		best := slices.IndexFunc(l, func(m api.Move) bool { return m.N != api.Esc })
		w = append(w, l[max(best, 0)])
	}
}

// modelDepth returns how many questions are open at most.
func modelDepth(w api.Word) int {
	most := 0
	for n := range w {
		most = max(most, len(modelOpen(w[:n+1])))
	}
	return most
}

// compareWithModel tests all that is told of a legal word.
func compareWithModel(t *testing.T, a api.Arena, w api.Word) {
	t.Helper()
	if at, e := play.Check(a, w); at != 0 || e != api.OK {
		t.Fatalf("Check of %s: %d, %v", text(t, w), at, e)
	}
	s, e := play.Stand(a, w)
	if e != api.OK || s.Turn != modelTurn(w) || !slices.Equal(s.Open, modelOpen(w)) || s.Forced != modelForced(w) || s.Lost != modelLost(w) {
		t.Fatalf("Stand of %s: %v, %v", text(t, w), s, e)
	}
	if l, e := play.Next(a, w); e != api.OK || !slices.Equal(l, modelNext(a, w)) {
		t.Fatalf("Next of %s: %v, %v", text(t, w), l, e)
	}
	partners, e1 := play.Partners(a, w)
	justifiers, e2 := play.Justifiers(a, w)
	if e1 != api.OK || e2 != api.OK || len(partners) != len(w) || len(justifiers) != len(w) {
		t.Fatalf("%s: %v, %v; %v, %v", text(t, w), partners, e1, justifiers, e2)
	}
	for n := range w {
		if partners[n] != modelPartner(w, n) || justifiers[n] != modelJustifier(w, n) {
			t.Fatalf("%s: %v, %v", text(t, w), partners, justifiers)
		}
	}
	compareViews(t, a, w)
	if d, e := play.Depth(a, w); e != api.OK || d != modelDepth(w) {
		t.Fatalf("Depth of %s: %d, %v", text(t, w), d, e)
	}
	if c, e := play.Close(a, w); e != api.OK || !slices.Equal(c, modelClose(a, w)) {
		t.Fatalf("Close of %s: %v, %v", text(t, w), c, e)
	}
	if c, e := play.Cut(a, w); e != api.OK || !slices.Equal(c, w) {
		t.Fatalf("Cut of %s: %v, %v", text(t, w), c, e)
	}
}

// compareViews tests the views of a legal word.
func compareViews(t *testing.T, a api.Arena, w api.Word) {
	t.Helper()
	var view, sight []int
	e1, e2 := api.ErrState, api.ErrState
	if len(w) > 0 {
		if other, _ := arena.IsOther(a, w[len(w)-1]); other {
			view, e1 = modelView(w), api.OK
		} else {
			sight, e2 = modelSight(w), api.OK
		}
	}
	if l, e := play.View(a, w); e != e1 || !slices.Equal(l, view) {
		t.Fatalf("View of %s: %v, %v", text(t, w), l, e)
	}
	if l, e := play.Sight(a, w); e != e2 || !slices.Equal(l, sight) {
		t.Fatalf("Sight of %s: %v, %v", text(t, w), l, e)
	}
}

// P5.1 to P5.5, P5.7 and P5.8: what is told of words is what the model says.
func TestModel(t *testing.T) {
	for _, x := range sayings(t, 2, 25, 40) {
		compareWithModel(t, x.Arena, x.w)
	}
}

// P5.1 to P5.5, P5.7 and P5.8: all words of small arenas, and what can come after each one.
func TestAllWords(t *testing.T) {
	for s, most := range map[string]int{
		"int 1": 3, "int 2; jumps": 3, "cell 2": 3, "cell 1; jumps": 3, "int 1; int 1": 8, "int 2; cell 1; jumps": 7,
		"int 1; (int 1) -> int 1": 10, "int 1; (int 1) -> int 1; jumps": 9, "int 1; (cell 1, int 2) -> int 1; int 2; jumps": 6,
	} {
		a := place(t, s)
		moves, _ := arena.Moves(a)
		words, many := []api.Word{nil}, 0
		for len(words) > 0 {
			w := words[0]
			words = words[1:]
			many++
			compareWithModel(t, a, w)
			if len(w) == most {
				continue
			}
			next := modelNext(a, w)
			for _, m := range moves {
				longer := append(slices.Clone(w), m)
				at, e := play.Check(a, longer)
				switch can := slices.Contains(next, m); {
				case can && (e != api.OK || at != 0), !can && (e != api.ErrOdd || at != len(w)):
					t.Fatalf("Check of %s in %s: %d, %v", text(t, longer), s, at, e)
				case can:
					words = append(words, longer)
				}
			}
		}
		if many < most {
			t.Errorf("%s: %d words", s, many)
		}
	}
}

// P5.1 and P5.8: words in which moves are others, or missing, or twice, or those of any kind.
func TestOddWords(t *testing.T) {
	r := source(3)
	odd := 0
	for _, x := range sayings(t, 4, 40, 25) {
		moves, _ := arena.Moves(x.Arena)
		w := slices.Clone(x.w)
		for range 1 + r.Intn(2) {
			n := r.Intn(len(w) + 1)
			m := pick(r, moves...)
			switch r.Intn(4) {
			case 0:
				w = slices.Insert(w, n, m)
			case 1:
				w = slices.Insert(w, n, anyMove(r))
			case 2:
				w = slices.Delete(w, n, min(n+1, len(w)))
			default:
				w = slices.Replace(w, n, min(n+1, len(w)), m)
			}
		}
		n := modelOdd(x.Arena, w)
		if n < 0 {
			compareWithModel(t, x.Arena, w)
			continue
		}
		odd++
		if at, e := play.Check(x.Arena, w); at != n || e != api.ErrOdd {
			t.Fatalf("Check of %v: %d, %v, not %d", w, at, e, n)
		}
		if c, e := play.Cut(x.Arena, w); !slices.Equal(c, w[:n]) || e != api.OK {
			t.Fatalf("Cut of %v: %v, %v, not %d moves", w, c, e, n)
		}
	}
	if odd < 100 {
		t.Errorf("%d words that are not legal", odd)
	}
}
