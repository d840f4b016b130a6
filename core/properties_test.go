package core_test

import (
	"math/rand"
	"slices"
	"strings"
	"testing"

	"riposte/api"
	"riposte/check"
	"riposte/core"
	"riposte/parse"
	"riposte/play"
	"riposte/run"
	"riposte/sample"
)

// P7.7: what Of returns is right.
func TestRight(t *testing.T) {
	r := source(50)
	many := 0
	for range 1500 {
		x := sample.Tree(r.Intn)
		a, u, e := core.Of(x, "m", r.Intn(2) == 0)
		if e == api.ErrLimit {
			continue
		}
		many++
		if e != api.OK || core.Check(a, u) != api.OK || !aroundOf(a).isArgument(u, a.Root) {
			t.Fatalf("Of %s: %v, %v", printed(x), u, e)
		}
	}
	if many < 1400 {
		t.Errorf("%d terms", many)
	}
}

// P7.8: of the tree of a term comes the term.
func TestOfTheTree(t *testing.T) {
	r := source(51)
	many := 0
	for range 500 {
		a, u, e := core.Of(sample.Tree(r.Intn), "m", true)
		x, f := core.Tree(a, u)
		if e != api.OK || f == api.ErrLimit {
			continue
		}
		many++
		if b, v, e := core.Of(x, "main", true); f != api.OK || e != api.OK || !sameArena(a, b) || !sameTerm(u, v) {
			t.Fatalf("%s: %v, %v: %v, %v", text(t, a, u), f, e, b, v)
		}
	}
	if many < 400 {
		t.Errorf("%d terms", many)
	}
}

// sameCore tests that two programs have the same core.
func sameCore(t *testing.T, x api.Tree, export string, y api.Tree, other string) {
	t.Helper()
	a, u, e := core.Of(x, export, false)
	b, v, f := core.Of(y, other, false)
	if e != f || !sameArena(a, b) || !sameTerm(u, v) {
		t.Fatalf("%s%s: %v, %v, %v and %v", printed(x), printed(y), e, f, u, v)
	}
}

// P7.9: names do not matter.
func TestRenamed(t *testing.T) {
	r := source(52)
	renamed := 0
	for range 1000 {
		x := sample.Tree(r.Intn)
		n := r.Intn(len(x.Nodes))
		y, e := check.Rename(x, n, "other")
		if e == api.ErrNone {
			continue
		}
		if e != api.OK {
			t.Fatalf("Rename of %d of %s: %v", n, printed(x), e)
		}
		renamed++
		export := "m"
		if x.Nodes[n].Text == "m" {
			export = "other"
		}
		sameCore(t, x, "m", y, export)
	}
	if renamed < 200 {
		t.Errorf("%d programs", renamed)
	}
}

// fresh returns the nodes of the term of a definition, in which all that is declared has names that are not there yet.
func fresh(t *testing.T, x api.Tree, d int) []api.TreeNode {
	t.Helper()
	kids, _ := parse.Kids(x, d)
	top := kids[len(kids)-1]
	l, e := parse.Sub(x, top)
	if e != api.OK {
		t.Fatalf("Sub: %v", e)
	}
	for i := range l {
		uses, e := check.Uses(x, top+i)
		if e != api.OK {
			continue
		}
		for _, n := range append(uses, top+i) {
			l[n-top].Text = "w" + num(i)
		}
	}
	return l
}

// P7.10: a name of a definition without params becomes its term.
func TestPutInByHand(t *testing.T) {
	r := source(53)
	put := 0
	for put < 150 {
		x := sample.Tree(r.Intn)
		for n, node := range x.Nodes {
			d, e := check.Means(x, n)
			if node.Kind != api.NameNode || e != api.OK || x.Nodes[d].Kind != api.DefItem || x.Nodes[d+1].Kind == api.ParamNode {
				continue
			}
			l := fresh(t, x, d)
			up, _ := parse.Up(x, n)
			if l[0].Kind == api.NumNode && x.Nodes[up].Kind == api.AsNode {
				continue
			}
			y, e := parse.Graft(x, n, l)
			if e != api.OK {
				continue // too deep, or too many
			}
			if _, e := check.Program(y); e != api.OK {
				continue // its own size was needed, or it is a function of a name
			}
			put++
			sameCore(t, x, "m", y, "m")
		}
	}
}

// shifted returns a term in which all identifiers behind some have numbers that are greater by one.
func shifted(x api.Term, from int) api.Term {
	return changed(x, func(y *api.Term) {
		if y.Id > from {
			y.Id++
		}
	})
}

// P7.12: definitions and imports that nothing uses.
func TestNotUsed(t *testing.T) {
	r := source(54)
	for range 500 {
		x := sample.Tree(r.Intn)
		lines := strings.SplitAfter(printed(x), "\n")
		lines = lines[:len(lines)-1]
		imports := 0
		last := 0 // behind the last import
		for i, s := range lines {
			if strings.HasPrefix(s, "import") {
				imports++
				last = i + 1
			}
		}
		with := func(at int, item string) api.Tree {
			return parsed(t, strings.Join(slices.Insert(slices.Clone(lines), at, item), ""))
		}
		sameCore(t, x, "m", with(r.Intn(len(lines)+1), "def unused(k:(com)->int 7):int 7=new c:7:=0 in label l in k(jump l)else!c;"), "m")

		y := with(last+r.Intn(len(lines)-last+1), "import unused:(cell 3)->int 7;")
		a, u, e := core.Of(x, "m", true)
		b, v, f := core.Of(y, "m", true)
		if e == api.ErrLimit && f == api.ErrLimit {
			continue
		}
		want := api.Arena{Ids: slices.Insert(slices.Clone(a.Ids), imports, api.Type{Params: []api.Base{cell(3)}, Result: integer(7)}), Root: a.Root, Jumps: true}
		if e != api.OK || f != api.OK || !sameArena(b, want) || !sameTerm(shifted(u, imports), v) {
			t.Fatalf("%s: %v, %v: %v, %v", printed(y), e, f, b, v)
		}
	}
}

// sameSaid tells whether two turns are the same, but for how many steps there were.
func sameSaid(x, y api.Turn) bool {
	return x.State == y.State && slices.Equal(x.Moves, y.Moves) && x.At == y.At && x.Picks == y.Picks
}

// compareTalk tests that two sessions say the same along a random word, and returns how many moves there were.
func compareTalk(t *testing.T, r *rand.Rand, a api.Arena, x, y api.Session) int {
	t.Helper()
	for len(x.Word) < 30 {
		y.Word = x.Word
		u, e := run.Next(x)
		v, f := run.Next(y)
		if e == api.ErrLimit || f == api.ErrLimit {
			break
		}
		if e != api.OK || f != api.OK || !sameSaid(u, v) {
			s, _ := play.Text(x.Word)
			t.Fatalf("%s%s%s: %v, %v: %v, %v", printed(x.T), printed(y.T), s, e, f, u, v)
		}
		if u.State != api.StateAsks {
			break
		}
		x.Word = append(x.Word, u.Moves...)
		l, _ := play.Next(a, x.Word)
		x.Word = append(x.Word, pick(r, l...))
	}
	return len(x.Word)
}

// P7.13: the program of the core says the same.
func TestSaysTheSame(t *testing.T) {
	r := source(55)
	said := 0
	for range 400 {
		x := api.Session{T: sample.Tree(r.Intn), Export: "m", Jumps: r.Intn(2) == 0}
		for range 8 {
			x.Picks = append(x.Picks, r.Intn(2))
		}
		a, u, e := core.Of(x.T, "m", x.Jumps)
		tree, f := core.Tree(a, u)
		if e != api.OK || f != api.OK {
			continue
		}
		y := api.Session{T: tree, Export: "main", Jumps: x.Jumps, Picks: x.Picks}
		for range 3 {
			said += compareTalk(t, r, a, x, y)
		}
	}
	if said < 5000 {
		t.Errorf("%d moves", said)
	}
}
