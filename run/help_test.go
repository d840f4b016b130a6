package run_test

import (
	"math/rand"
	"slices"
	"testing"

	"riposte/api"
	"riposte/check"
	"riposte/parse"
	"riposte/play"
	"riposte/run"
)

// Programs of many tests; what is asked of each is its export m.
const (
	plus   = "import i:int 3; export m():int 3=i+1;"
	hands  = "import f:(cell 3)->com; export m(g:cell 3):com=f(g);"
	leaves = "import f:(com)->com; export m():com=label l in f(jump l)else skip;"
	chance = "export m():com=choose skip else hang;"
	keeps  = "import f:(cell 2)->com; export m():bool=new c:2:=0 in(f(c);!c);"
	loops  = "export m():com=while true do skip;"
)

// source returns the same numbers in each run, so that a test that fails fails again.
func source(seed int64) *rand.Rand { return rand.New(rand.NewSource(seed)) }

func pick[T any](r *rand.Rand, l ...T) T { return l[r.Intn(len(l))] }

// parsed returns the tree of a text that has one.
func parsed(t *testing.T, s string) api.Tree {
	t.Helper()
	x, at, e := parse.Parse(s)
	if e != api.OK {
		t.Fatalf("Parse of %q: %d, %v", s, at, e)
	}
	return x
}

// word returns the word of a text.
func word(t *testing.T, s string) api.Word {
	t.Helper()
	w, e := play.Parse(s)
	if e != api.OK {
		t.Fatalf("Parse of %q: %v", s, e)
	}
	return w
}

// text returns the text of a word.
func text(t *testing.T, w api.Word) string {
	t.Helper()
	s, e := play.Text(w)
	if e != api.OK {
		t.Fatalf("Text of %v: %v", w, e)
	}
	return s
}

// session returns the session of the export m of a text's program, without jumps.
func session(t *testing.T, s, said string, picks ...int) api.Session {
	t.Helper()
	return api.Session{T: parsed(t, s), Export: "m", Word: word(t, said), Picks: picks}
}

// jumpy returns a session with jumps.
func jumpy(t *testing.T, s, said string, picks ...int) api.Session {
	t.Helper()
	x := session(t, s, said, picks...)
	x.Jumps = true
	return x
}

// saying returns a session with another word.
func saying(x api.Session, w api.Word) api.Session {
	x.Word = w
	return x
}

// place returns the arena of a session.
func place(t *testing.T, x api.Session) api.Arena {
	t.Helper()
	a, e := run.Arena(x)
	if e != api.OK {
		t.Fatalf("Arena: %v", e)
	}
	return a
}

// next returns the turn of a session.
func next(t *testing.T, x api.Session) api.Turn {
	t.Helper()
	u, e := run.Next(x)
	if e != api.OK {
		t.Fatalf("Next of %s: %v", text(t, x.Word), e)
	}
	return u
}

// node returns the number so and so, from 1 on, of the nodes of a kind with a text.
func node(t *testing.T, x api.Tree, kind uint8, s string, nth int) int {
	t.Helper()
	for n, y := range x.Nodes {
		if y.Kind == kind && y.Text == s {
			if nth--; nth == 0 {
				return n
			}
		}
	}
	t.Fatalf("no node %d %q", kind, s)
	return 0
}

func sameTurn(x, y api.Turn) bool {
	return x.State == y.State && slices.Equal(x.Moves, y.Moves) && x.At == y.At && x.Steps == y.Steps && x.Picks == y.Picks
}

// printed returns the text of a tree.
func printed(x api.Tree) string {
	s, _ := parse.Print(x)
	return s
}

// hasEffect tells whether the export of a session has one of some effects.
func hasEffect(t *testing.T, x api.Session, effects int) bool {
	t.Helper()
	n, _ := parse.Find(x.T, x.Export)
	has, e := check.Effects(x.T, n)
	if e != api.OK {
		t.Fatalf("Effects: %v", e)
	}
	return has&effects != 0
}

// isEsc tells whether a move is an answer by a jump.
func isEsc(m api.Move) bool { return m.Kind == api.MoveTell && m.N == api.Esc }
