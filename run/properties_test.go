package run_test

import (
	"math/rand"
	"slices"
	"testing"

	"riposte/api"
	"riposte/arena"
	"riposte/check"
	"riposte/parse"
	"riposte/play"
	"riposte/run"
)

// spoken is a session with its turn.
type spoken struct {
	api.Session
	api.Turn
}

// conversation returns a random conversation with the program of a session: what it is after each move of the other one, up to a limit.
func conversation(t *testing.T, r *rand.Rand, x api.Session, most int) []spoken {
	t.Helper()
	a := place(t, x)
	var l []spoken
	for {
		u, e := run.Next(x)
		if e != api.OK {
			return l
		}
		l = append(l, spoken{x, u})
		if u.State != api.StateAsks || len(x.Word) > most {
			return l
		}
		x = saying(x, heard(t, r, a, slices.Concat(x.Word, u.Moves)))
	}
}

// conversations returns what random programs say.
func conversations(t *testing.T, seed int64, many, most int) []spoken {
	t.Helper()
	r := source(seed)
	var l []spoken
	for range many {
		l = append(l, conversation(t, r, randomSession(r), most)...)
	}
	return l
}

// P6.6: what is said is legal, and the other one can say just what can come.
func TestLegal(t *testing.T) {
	for _, x := range conversations(t, 10, 100, 20) {
		a := place(t, x.Session)
		w := slices.Concat(x.Word, x.Moves)
		if at, e := play.Check(a, w); at != 0 || e != api.OK {
			t.Fatalf("%s%s: %d, %v", printed(x.T), text(t, w), at, e)
		}
		s, _ := play.Stand(a, w)
		is := map[uint8]uint8{api.StateAsks: api.TurnOther, api.StateOver: api.TurnOver, api.StateHangs: api.TurnProgram}
		if s.Turn != is[x.State] {
			t.Fatalf("%s%s: %v, %v", printed(x.T), text(t, w), x.Turn, s)
		}
		if x.State != api.StateAsks {
			continue
		}
		can, _ := play.Next(a, w)
		moves, _ := arena.Moves(a)
		for _, m := range moves {
			longer := saying(x.Session, append(slices.Clone(w), m))
			u, e := run.Next(longer)
			isOdd := u.State == api.StateOdd
			if e == api.OK && isOdd == slices.Contains(can, m) || isOdd && u.At != len(w) {
				t.Fatalf("%s%s: %v, %v", printed(x.T), text(t, longer.Word), u, e)
			}
		}
	}
}

// P6.7: with its next move a word stands where it stood; what was said is said again; what is odd stays odd.
func TestOnAndOn(t *testing.T) {
	r := source(11)
	for _, x := range conversations(t, 12, 300, 30) {
		moves, _ := arena.Moves(place(t, x.Session))
		on := x.Turn
		on.Moves, on.At = nil, len(x.Word)+len(x.Moves)
		w := slices.Concat(x.Word, x.Moves)
		if u := next(t, saying(x.Session, w)); !sameTurn(u, on) {
			t.Fatalf("%s%s: %v, not %v", printed(x.T), text(t, w), u, on)
		}
		if n := len(x.Word); n > 1 && r.Intn(3) == 0 {
			// Up to n the word is what the program says; n odd moves of it are those of the other one.
			k := 1 + 2*r.Intn((n+1)/2)
			if u := next(t, saying(x.Session, x.Word[:k])); k < n && !slices.Equal(u.Moves, x.Word[k:k+1]) {
				t.Fatalf("%s%s: %v at %d", printed(x.T), text(t, x.Word), u, k)
			}
		}
		odd := append(w, pick(r, moves...))
		if u, e := run.Next(saying(x.Session, odd)); e == api.OK && u.State == api.StateOdd {
			for range 3 {
				odd = append(odd, pick(r, moves...))
				if v := next(t, saying(x.Session, odd)); !sameTurn(u, v) || u.At != len(w) {
					t.Fatalf("%s%s: %v, not %v", printed(x.T), text(t, odd), v, u)
				}
			}
		}
	}
}

// P6.8: picks that are not taken do not matter, and without choices none is.
func TestPicks(t *testing.T) {
	r := source(13)
	taken := 0
	for _, x := range conversations(t, 14, 300, 20) {
		if !hasEffect(t, x.Session, api.EffChoices) && x.Picks() > 0 {
			t.Fatalf("%s%s: %d picks", printed(x.T), text(t, x.Word), x.Picks())
		}
		y := x.Session
		y.Picks = slices.Clone(y.Picks[:min(len(y.Picks), x.Picks())])
		for len(y.Picks) < x.Picks() {
			y.Picks = append(y.Picks, 0)
			taken++
		}
		// Even picks are all the same, and odd ones.
		for i := range y.Picks {
			y.Picks[i] += 2 * (r.Intn(5) - 2)
		}
		for range r.Intn(4) {
			y.Picks = append(y.Picks, r.Intn(9))
		}
		if u := next(t, y); !sameTurn(u, x.Turn) {
			t.Fatalf("%s%s %v: %v, not %v with %v", printed(x.T), text(t, x.Word), x.Session.Picks, x.Turn, u, y.Picks)
		}
	}
	if taken < 50 {
		t.Errorf("%d picks were not there", taken)
	}
}

// Picks returns how many picks were taken.
func (x spoken) Picks() int { return x.Turn.Picks }

// P6.9: a program in which a declaration has another name says the same.
func TestRenamed(t *testing.T) {
	r := source(15)
	for _, x := range conversations(t, 16, 200, 20) {
		n := r.Intn(len(x.T.Nodes))
		renamed, e := check.Rename(x.T, n, "other")
		if e == api.ErrNone {
			continue
		}
		if e != api.OK {
			t.Fatalf("Rename: %v", e)
		}
		y := x.Session
		y.T = renamed
		if x.T.Nodes[n].Text == y.Export {
			y.Export = "other"
		}
		l, _ := run.From(x.Session)
		k, _ := run.From(y)
		if u := next(t, y); !sameTurn(u, x.Turn) || !slices.Equal(l, k) {
			t.Fatalf("%s%s: %v, not %v", printed(y.T), text(t, x.Word), u, x.Turn)
		}
	}
}

// sameSaid tells whether two turns are the same, but for how many steps there were.
func sameSaid(x, y api.Turn) bool {
	x.Steps = y.Steps
	return sameTurn(x, y)
}

// P6.10: definitions, and what is put in for them by hand.
func TestByHand(t *testing.T) {
	r := source(17)
	for _, x := range []struct{ s, by string }{
		{"import i:int 3; def d(x:int 3):int 3=x+x; export m():int 3=d(i+1);", "import i:int 3; export m():int 3=i+1+(i+1);"},
		{"import i:cell 3; def d(c:cell 3):com=c:=!c+1; export m():com=d(i);d(i);", "import i:cell 3; export m():com=(i:=!i+1);i:=!i+1;"},
		{"import f:(bool)->com; def d(k:(bool)->com):com=k(true);k(false); export m():com=d(f);d(fn(x)if x then skip else f(x));", "import f:(bool)->com; export m():com=f(true);f(false);skip;if false then skip else f(false);"},
		{"import i:int 3; def d(c:cell 3,x:int 3):com=while x do c:=!c-1; export m():int 3=new a:3:=2 in(d(a,!a*i);!a);", "import i:int 3; export m():int 3=new a:3:=2 in((while!a*i do a:=!a-1);!a);"},
		{"import i:bool; def d(c:cell 3):com=c:=!c+1; export m():com=new a:3:=0 in d({get 1 as 3;put v.if i then skip else a:=v});", "import i:bool; export m():com=new a:3:=0 in if i then skip else a:=1+1;"},
		{"import f:(com)->com; def d(x:com):com=label l in(x;f(jump l);x)else x; export m():com=label k in d(f(jump k))else skip;", "import f:(com)->com; export m():com=label k in(label l in(f(jump k);f(jump l);f(jump k))else f(jump k))else skip;"},
	} {
		for range 60 {
			one := session(t, x.s, "", r.Intn(2), r.Intn(2))
			one.Jumps = r.Intn(2) == 0
			two := one
			two.T = parsed(t, x.by)
			for _, y := range conversation(t, r, one, 25) {
				u, e := run.Next(saying(two, y.Word))
				if e != api.OK || !sameSaid(u, y.Turn) {
					t.Fatalf("%s%s: %v, %v, not %v", x.by, text(t, y.Word), u, e, y.Turn)
				}
			}
		}
	}
}

// P6.10: a name of a definition without params becomes its term, in random programs.
func TestNamesOfDefinitions(t *testing.T) {
	r := source(18)
	changed := 0
	for changed < 150 {
		x := randomSession(r)
		for n, y := range x.T.Nodes {
			d, e := check.Means(x.T, n)
			if y.Kind != api.NameNode || e != api.OK || x.T.Nodes[d].Kind != api.DefItem || x.T.Nodes[d+1].Kind == api.ParamNode {
				continue
			}
			put, e := parse.Graft(x.T, n, definitionTerm(t, x.T, d))
			if e != api.OK {
				t.Fatalf("Graft: %v", e)
			}
			if _, e := check.Program(put); e != api.OK {
				continue // the definition's size was needed, or its names are there twice
			}
			changed++
			for _, z := range conversation(t, r, x, 20) {
				other := z.Session
				other.T = put
				if u, e := run.Next(other); e != api.OK || !sameSaid(u, z.Turn) {
					t.Fatalf("%s%s%s: %v, %v, not %v", printed(x.T), printed(put), text(t, z.Word), u, e, z.Turn)
				}
			}
			break
		}
	}
}

// definitionTerm returns the term of a definition.
func definitionTerm(t *testing.T, x api.Tree, d int) []api.TreeNode {
	t.Helper()
	kids, e := parse.Kids(x, d)
	if e != api.OK {
		t.Fatalf("Kids: %v", e)
	}
	l, e := parse.Sub(x, kids[len(kids)-1])
	if e != api.OK {
		t.Fatalf("Sub: %v", e)
	}
	return l
}

// P6.11: whether there are jumps does not matter where the other one does not jump; after it did nothing but Esc is said.
func TestJumpsOfOther(t *testing.T) {
	lost, others := 0, 0
	for _, x := range conversations(t, 19, 500, 30) {
		stand, _ := play.Stand(place(t, x.Session), x.Word)
		if stand.Lost {
			lost++
			for _, m := range x.Moves {
				if !isEsc(m) {
					t.Fatalf("%s%s: %v", printed(x.T), text(t, x.Word), x.Turn)
				}
			}
			continue
		}
		others++
		y := x.Session
		y.Jumps = !y.Jumps
		if u := next(t, y); !sameTurn(u, x.Turn) {
			t.Fatalf("%s%s: %v, not %v", printed(x.T), text(t, x.Word), u, x.Turn)
		}
	}
	if lost < 30 || others < 300 {
		t.Errorf("%d words are lost, %d are not", lost, others)
	}
}

// P6.12: cells are below their sizes, and there are none at the end.
func TestCellsAreBelow(t *testing.T) {
	many := 0
	for _, x := range conversations(t, 20, 300, 30) {
		l, e := run.Store(x.Session)
		if e != api.OK || x.State == api.StateOver && len(l) > 0 {
			t.Fatalf("%s%s: Store: %v, %v", printed(x.T), text(t, x.Word), l, e)
		}
		for _, c := range l {
			many++
			if y := x.T.Nodes[c.Node]; y.Kind != api.NewNode || c.N < 0 || c.N >= y.N {
				t.Fatalf("%s%s: Store: %v", printed(x.T), text(t, x.Word), l)
			}
		}
	}
	if many < 100 {
		t.Errorf("%d cells", many)
	}
}
