package core_test

import (
	"math/rand"
	"slices"
	"testing"

	"riposte/api"
	"riposte/arena"
	"riposte/core"
	"riposte/parse"
)

// source returns the same numbers in each run, so that a test that fails fails again.
func source(seed int64) *rand.Rand { return rand.New(rand.NewSource(seed)) }

func pick[T any](r *rand.Rand, l ...T) T { return l[r.Intn(len(l))] }

// parsed returns the tree of a text that has one.
func parsed(t *testing.T, s string) api.Tree {
	t.Helper()
	x, at, e := parse.Parse(s)
	if e != api.OK {
		t.Fatalf("Parse of %q: %d, %v", s, at, e)
	}
	return x
}

// printed returns the text of a tree.
func printed(x api.Tree) string {
	s, _ := parse.Print(x)
	return s
}

// place returns the arena of a text.
func place(t *testing.T, s string) api.Arena {
	t.Helper()
	a, e := arena.Read(s)
	if e != api.OK {
		t.Fatalf("Read of %q: %v", s, e)
	}
	return a
}

// example is an arena that has an integer, a cell, and something with params; further ones have another Root.
const example = "int 1; int 2; cell 3; (int 3, cell 2) -> int 1"

// term returns the term of a text.
func term(t *testing.T, a api.Arena, s string) api.Term {
	t.Helper()
	x, e := core.Parse(a, s)
	if e != api.OK {
		t.Fatalf("Parse of %q: %v", s, e)
	}
	return x
}

// text returns the text of a term.
func text(t *testing.T, a api.Arena, x api.Term) string {
	t.Helper()
	s, e := core.Text(a, x)
	if e != api.OK {
		t.Fatalf("Text of %v in %v: %v", x, a, e)
	}
	return s
}

// made returns the arena of the export m of a program, and its core.
func made(t *testing.T, x api.Tree, jumps bool) (api.Arena, api.Term) {
	t.Helper()
	a, u, e := core.Of(x, "m", jumps)
	if e != api.OK {
		t.Fatalf("Of %s: %v", printed(x), e)
	}
	return a, u
}

func sameType(x, y api.Type) bool { return slices.Equal(x.Params, y.Params) && x.Result == y.Result }

func sameArena(x, y api.Arena) bool {
	return slices.EqualFunc(x.Ids, y.Ids, sameType) && x.Root == y.Root && x.Jumps == y.Jumps
}

func sameTerm(x, y api.Term) bool {
	return x.Kind == y.Kind && x.Id == y.Id && x.N == y.N && x.M == y.M && slices.EqualFunc(x.Kids, y.Kids, sameTerm)
}

// changed returns a copy of a term whose nodes have been changed, each before its kids.
func changed(x api.Term, change func(*api.Term)) api.Term {
	x.Kids = slices.Clone(x.Kids)
	change(&x)
	for k, kid := range x.Kids {
		x.Kids[k] = changed(kid, change)
	}
	return x
}

func copied(x api.Term) api.Term { return changed(x, func(*api.Term) {}) }

// count returns how many nodes a term has.
func count(x api.Term) int {
	many := 0
	changed(x, func(*api.Term) { many++ })
	return many
}

// endless returns a term that is its own kid.
func endless() api.Term {
	kids := make([]api.Term, 1)
	kids[0] = api.Term{Kind: api.TermAs, N: 1, Kids: kids}
	return kids[0]
}
