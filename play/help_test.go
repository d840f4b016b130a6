package play_test

import (
	"math/rand"
	"slices"
	"testing"

	"riposte/api"
	"riposte/arena"
	"riposte/play"
)

const (
	plain = "int 2; (int 3, cell 2) -> int 1; cell 2" // the arena of the chapter's examples
	jumps = plain + "; jumps"
	said  = "0? 1? 1.1? 2? 2!1 1.1!2 1.2=1 1.2!0 1!0" // the word of the chapter's examples
)

// arenaTexts are arenas: with params and without, with cells, with jumps, small ones and great ones.
var arenaTexts = []string{
	plain, jumps, "int 1", "int 2; jumps", "cell 3", "cell 2; jumps", "int 1; int 1", "int 1; int 1; jumps",
	"int 2; (int 2) -> int 1; int 2", "cell 2; (cell 1) -> int 2; jumps",
	"int 1; (int 1, int 1) -> int 2; (cell 2) -> int 1; cell 3", "int 1; (int 1, int 1) -> int 2; (cell 2) -> int 1; cell 3; jumps",
	"cell 64; (cell 64, int 64, int 1, cell 1, int 2) -> int 64; int 64; cell 64; int 1; (int 1) -> int 1; int 2; int 3; cell 4; jumps",
}

// source returns the same numbers in each run, so that a test that fails fails again.
func source(seed int64) *rand.Rand { return rand.New(rand.NewSource(seed)) }

func pick[T any](r *rand.Rand, l ...T) T { return l[r.Intn(len(l))] }

// place returns the arena of a text.
func place(t *testing.T, s string) api.Arena {
	t.Helper()
	a, e := arena.Read(s)
	if e != api.OK {
		t.Fatalf("Read of %q: %v", s, e)
	}
	return a
}

// word returns the word of a text.
func word(t *testing.T, s string) api.Word {
	t.Helper()
	w, e := play.Parse(s)
	if e != api.OK {
		t.Fatalf("Parse of %q: %v", s, e)
	}
	return w
}

// text returns the text of a word, or of a list of moves.
func text(t *testing.T, w []api.Move) string {
	t.Helper()
	s, e := play.Text(w)
	if e != api.OK {
		t.Fatalf("Text of %v: %v", w, e)
	}
	return s
}

// those returns the elements of which something is so.
func those[T any](l []T, isSo func(T) bool) []T {
	var out []T
	for _, x := range l {
		if isSo(x) {
			out = append(out, x)
		}
	}
	return out
}

// style is how the moves of a random word are chosen: of ten moves so many are answers, or jumps, if there are such ones.
type style struct{ answers, jumps int }

var styles = []style{{5, 1}, {3, 0}, {7, 1}, {6, 4}, {1, 1}, {9, 0}}

// randomWord returns a legal word of at most so many moves, by the model.
func randomWord(r *rand.Rand, a api.Arena, how style, most int) api.Word {
	var w api.Word
	for len(w) < most {
		l := modelNext(a, w)
		if len(l) == 0 {
			break
		}
		wanted := l
		switch n := r.Intn(10); {
		case n < how.jumps:
			wanted = those(l, isEsc)
		case n < how.jumps+how.answers:
			wanted = those(l, func(m api.Move) bool { return m.Kind == api.MoveTell && m.N != api.Esc })
		default:
			wanted = those(l, func(m api.Move) bool { return m.Kind != api.MoveTell })
		}
		if len(wanted) == 0 {
			wanted = l
		}
		w = append(w, pick(r, wanted...))
	}
	return w
}

// saying is a legal word in an arena.
type saying struct {
	api.Arena
	w api.Word
}

// sayings returns random legal words in all arenas: complete ones and others, with jumps, forced moves and lost words among them.
func sayings(t *testing.T, seed int64, many, most int) []saying {
	t.Helper()
	r := source(seed)
	var l []saying
	for _, s := range arenaTexts {
		a := place(t, s)
		l = append(l, saying{a, nil})
		for _, how := range styles {
			for range many {
				l = append(l, saying{a, randomWord(r, a, how, 1+r.Intn(most))})
			}
		}
	}
	return l
}

// The words of the tests have all that can happen in words.
func TestSayings(t *testing.T) {
	counts := map[string]int{}
	for _, x := range sayings(t, 1, 20, 30) {
		a := x.Arena
		for n := range x.w {
			if modelForced(x.w[:n]) {
				counts["forced"]++
			}
		}
		if modelLost(x.w) {
			counts["lost"]++
		}
		if len(x.w) > 0 && len(modelOpen(x.w)) == 0 {
			counts["complete"]++
			if modelLost(x.w) {
				counts["lost and complete"]++
			}
		}
		if modelLost(x.w) && slices.ContainsFunc(x.w, func(m api.Move) bool { return isEsc(m) && m.Arg > 0 }) {
			counts["lost in an argument"]++
		}
		if !a.Jumps && slices.ContainsFunc(x.w, isEsc) {
			counts["jumps of the program alone"]++
		}
		if len(modelOpen(x.w)) > 8 {
			counts["deep"]++
		}
	}
	for _, what := range []string{"forced", "lost", "complete", "lost and complete", "lost in an argument", "jumps of the program alone", "deep"} {
		if counts[what] < 10 {
			t.Errorf("%s: %d words", what, counts[what])
		}
	}
}
