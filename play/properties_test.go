package play_test

import (
	"slices"
	"testing"

	"riposte/api"
	"riposte/arena"
	"riposte/play"
)

// stand returns where a legal word stands.
func stand(t *testing.T, a api.Arena, w api.Word) api.Stand {
	t.Helper()
	s, e := play.Stand(a, w)
	if e != api.OK {
		t.Fatalf("Stand of %v: %v", w, e)
	}
	return s
}

// numbers returns what a function tells of the moves of a legal word.
func numbers(t *testing.T, tell func(api.Arena, api.Word) ([]int, api.Errno), a api.Arena, w api.Word) []int {
	t.Helper()
	l, e := tell(a, w)
	if e != api.OK {
		t.Fatalf("%v: %v", w, e)
	}
	return l
}

// next returns what can come after a legal word.
func next(t *testing.T, a api.Arena, w api.Word) []api.Move {
	t.Helper()
	l, e := play.Next(a, w)
	if e != api.OK {
		t.Fatalf("Next of %v: %v", w, e)
	}
	return l
}

// isOther tells whether a move of an arena is the other one's.
func isOther(t *testing.T, a api.Arena, m api.Move) bool {
	t.Helper()
	other, e := arena.IsOther(a, m)
	if e != api.OK {
		t.Fatalf("IsOther of %v: %v", m, e)
	}
	return other
}

// P5.10: both move by turns, and the next moves are those of the side whose turn it is.
func TestByTurns(t *testing.T) {
	for _, x := range sayings(t, 10, 15, 40) {
		for n, m := range x.w {
			if isOther(t, x.Arena, m) != (n%2 == 0) {
				t.Fatalf("%d of %v", n, x.w)
			}
		}
		for n := range len(x.w) + 1 {
			s, l := stand(t, x.Arena, x.w[:n]), next(t, x.Arena, x.w[:n])
			if (s.Turn == api.TurnOver) != (len(l) == 0) {
				t.Fatalf("%v: %v, %v", x.w[:n], s, l)
			}
			for _, m := range l {
				if isOther(t, x.Arena, m) != (s.Turn == api.TurnOther) {
					t.Fatalf("%v of %v: %v", m, x.w[:n], s)
				}
			}
		}
	}
}

// P5.11: beginnings are legal, and a word is legal just if each move is among the next ones.
func TestBeginnings(t *testing.T) {
	r := source(11)
	for _, x := range sayings(t, 12, 10, 30) {
		moves, _ := arena.Moves(x.Arena)
		for n := range len(x.w) + 1 {
			begin := x.w[:n]
			if at, e := play.Check(x.Arena, begin); at != 0 || e != api.OK {
				t.Fatalf("%v: %d, %v", begin, at, e)
			}
			l := next(t, x.Arena, begin)
			if n < len(x.w) && !slices.Contains(l, x.w[n]) {
				t.Fatalf("%v: %v cannot come", begin, x.w[n])
			}
			for range 5 {
				m := pick(r, moves...)
				_, e := play.Check(x.Arena, append(slices.Clone(begin), m))
				if (e == api.OK) != slices.Contains(l, m) || e != api.OK && e != api.ErrOdd {
					t.Fatalf("%v: %v, %v", begin, m, e)
				}
			}
		}
	}
}

// P5.12: partners are like brackets.
func TestBrackets(t *testing.T) {
	for _, x := range sayings(t, 13, 20, 40) {
		l := numbers(t, play.Partners, x.Arena, x.w)
		for n, k := range l {
			if k < 0 {
				if x.w[n].Kind == api.MoveTell {
					t.Fatalf("%d of %v answers nothing", n, x.w)
				}
				continue
			}
			q, m := x.w[min(n, k)], x.w[max(n, k)]
			answers, _ := arena.Answers(x.Arena, q)
			if l[k] != n || q.Id != m.Id || q.Arg != m.Arg || !slices.Contains(answers, m) {
				t.Fatalf("%d and %d of %v", n, k, x.w)
			}
			for i := min(n, k) + 1; i < max(n, k); i++ {
				if l[i] <= min(n, k) || l[i] >= max(n, k) {
					t.Fatalf("%d and %d of %v: %d between them", n, k, x.w, i)
				}
			}
		}
		s := stand(t, x.Arena, x.w)
		open := 0
		for n, m := range x.w {
			if m.Kind != api.MoveTell && l[n] < 0 {
				open++
			}
		}
		if (s.Turn == api.TurnOver) != (open == 0 && len(x.w) > 0) || open != len(s.Open) {
			t.Fatalf("%v: %v, %d open", x.w, s, open)
		}
	}
}

// P5.13: a view goes by turns, has what justifies its moves, and is a legal word, whose view it is.
func TestViewsAreWords(t *testing.T) {
	for _, x := range sayings(t, 14, 20, 40) {
		w := x.w[:max(0, len(x.w)-1+len(x.w)%2)]
		if len(w) == 0 {
			continue
		}
		view := numbers(t, play.View, x.Arena, w)
		justifiers := numbers(t, play.Justifiers, x.Arena, w)
		if view[0] != 0 || view[len(view)-1] != len(w)-1 || !slices.IsSorted(view) {
			t.Fatalf("View of %v: %v", w, view)
		}
		var seen api.Word
		for n, k := range view {
			other := isOther(t, x.Arena, w[k])
			if other != (n%2 == 0) || !other && !slices.Contains(view, justifiers[k]) {
				t.Fatalf("View of %v: %v", w, view)
			}
			seen = append(seen, w[k])
		}
		again := numbers(t, play.View, x.Arena, seen)
		for n := range seen {
			if again[n] != n {
				t.Fatalf("View of %v: %v", seen, again)
			}
		}
		if len(again) != len(seen) {
			t.Fatalf("View of %v: %v", seen, again)
		}
	}
}

// firstUnforced returns the number of the first Esc of an i, 0 that does not follow one of a place i, j, or -1.
func firstUnforced(w api.Word) int {
	for n, m := range w {
		if isEsc(m) && m.Id > 0 && m.Arg == 0 && (!isEsc(w[n-1]) || w[n-1].Arg == 0) {
			return n
		}
	}
	return -1
}

// P5.14: what is lost has nothing but Esc from there on, and can be completed in one way alone.
func TestLost(t *testing.T) {
	lost := 0
	for _, x := range sayings(t, 15, 30, 40) {
		s := stand(t, x.Arena, x.w)
		if !x.Jumps && s.Lost {
			t.Fatalf("%v is lost", x.w)
		}
		first := firstUnforced(x.w)
		if s.Lost != (first >= 0) {
			t.Fatalf("%v: %v", x.w, s)
		}
		if first < 0 {
			continue
		}
		lost++
		if slices.ContainsFunc(x.w[first:], func(m api.Move) bool { return !isEsc(m) }) {
			t.Fatalf("%v goes on", x.w)
		}
		w := slices.Clone(x.w)
		for stand(t, x.Arena, w).Turn != api.TurnOver {
			l := next(t, x.Arena, w)
			if len(l) != 1 || !isEsc(l[0]) {
				t.Fatalf("Next of %v: %v", w, l)
			}
			w = append(w, l[0])
		}
		if c, e := play.Close(x.Arena, x.w); e != api.OK || !slices.Equal(c, w) {
			t.Fatalf("Close of %v: %v, %v", x.w, c, e)
		}
	}
	if lost < 50 {
		t.Errorf("%d words are lost", lost)
	}
}

// P5.15: the close is complete, begins with the word, and answers the open questions, the top first.
func TestCloses(t *testing.T) {
	for _, x := range sayings(t, 16, 20, 60) {
		if len(x.w) == 0 {
			continue
		}
		c, e := play.Close(x.Arena, x.w)
		if e != api.OK {
			t.Fatalf("Close of %v: %v", x.w, e)
		}
		if !slices.Equal(c[:len(x.w)], x.w) || stand(t, x.Arena, c).Turn != api.TurnOver {
			t.Fatalf("Close of %v: %v", x.w, c)
		}
		partners := numbers(t, play.Partners, x.Arena, c)
		open := stand(t, x.Arena, x.w).Open
		if len(c) != len(x.w)+len(open) {
			t.Fatalf("Close of %v: %v", x.w, c)
		}
		slices.Reverse(open)
		if !slices.Equal(partners[len(x.w):], open) {
			t.Fatalf("Close of %v: %v", x.w, partners)
		}
	}
}
