package check_test

import (
	"math/rand"
	"slices"
	"strings"
	"testing"

	"riposte/api"
	"riposte/check"
	"riposte/parse"
)

// source returns the same numbers in each run, so that a test that fails fails again.
func source(seed int64) *rand.Rand { return rand.New(rand.NewSource(seed)) }

func pick[T any](r *rand.Rand, l ...T) T { return l[r.Intn(len(l))] }

// parsed returns the tree of a text that has one.
func parsed(t *testing.T, s string) api.Tree {
	t.Helper()
	x, at, e := parse.Parse(s)
	if e != api.OK {
		t.Fatalf("Parse of %q: %d, %v", s, at, e)
	}
	return x
}

// marked returns the tree of a text in which marks stand in front of tokens, and the nodes of these tokens: those with ^, and those with $.
func marked(t *testing.T, s string) (x api.Tree, hats, dollars []int) {
	t.Helper()
	var plain []byte
	var marks []byte
	var places []int
	for _, b := range []byte(s) {
		if b == '^' || b == '$' {
			marks, places = append(marks, b), append(places, len(plain))
			continue
		}
		plain = append(plain, b)
	}
	x = parsed(t, string(plain))
	for i, at := range places {
		n := slices.IndexFunc(x.Nodes, func(y api.TreeNode) bool { return y.At == at && y.Kind != api.ProgramNode })
		if n < 0 {
			t.Fatalf("%q: no node at %d", s, at)
		}
		if marks[i] == '^' {
			hats = append(hats, n)
		} else {
			dollars = append(dollars, n)
		}
	}
	return x, hats, dollars
}

// integer, cell and arrow return types.
func integer(n int) api.Type { return api.Type{Result: api.Base{N: n}} }

func cell(n int) api.Type { return api.Type{Result: api.Base{Cell: true, N: n}} }

// arrow returns a type with Params; the last one of the bases is the Result.
func arrow(l ...api.Type) api.Type {
	var t api.Type
	for _, x := range l[:len(l)-1] {
		t.Params = append(t.Params, x.Result)
	}
	t.Result = l[len(l)-1].Result
	return t
}

func sameType(x, y api.Type) bool { return slices.Equal(x.Params, y.Params) && x.Result == y.Result }

func sameTypes(x, y []api.Type) bool { return slices.EqualFunc(x, y, sameType) }

// node returns a node with its kids.
func node(x api.TreeNode, kids ...[]api.TreeNode) []api.TreeNode {
	l := append([]api.TreeNode{x}, slices.Concat(kids...)...)
	l[0].Size = len(l)
	return l
}

// program returns a tree of items.
func program(items ...[]api.TreeNode) api.Tree {
	return api.Tree{Nodes: node(api.TreeNode{Kind: api.ProgramNode}, items...)}
}

// leaf returns a node without kids and fields.
func leaf(kind uint8) []api.TreeNode { return node(api.TreeNode{Kind: kind}) }

// def returns a def whose result is a com.
func def(name string, term []api.TreeNode) []api.TreeNode {
	return node(api.TreeNode{Kind: api.DefItem, Text: name}, node(api.TreeNode{Kind: api.IntType, N: 1}), term)
}

// items returns the items of a tree.
func items(x api.Tree) []int {
	l, _ := parse.Kids(x, 0)
	return l
}

// means returns what each node of a tree means; -1 of those that mean nothing.
func means(x api.Tree) []int {
	l := make([]int, len(x.Nodes))
	for n := range l {
		d, e := check.Means(x, n)
		l[n] = d
		if e != api.OK {
			l[n] = -1
		}
	}
	return l
}

// sizes returns the size of each term of a tree; -1 of all that has none.
func sizes(x api.Tree) []int {
	l := make([]int, len(x.Nodes))
	for n := range l {
		s, e := check.Size(x, n)
		l[n] = s
		if e != api.OK {
			l[n] = -1
		}
	}
	return l
}

// badTrees are trees with errors, and their errors.
func badTrees() map[string]struct {
	x api.Tree
	e api.Errno
} {
	type bad = struct {
		x api.Tree
		e api.Errno
	}
	skip := leaf(api.SkipNode)
	deep := skip
	for range 58 {
		deep = node(api.TreeNode{Kind: api.NotNode}, deep)
	}
	tooDeep := node(api.TreeNode{Kind: api.NotNode}, deep)
	many := slices.Repeat([][]api.TreeNode{def("f", skip)}, 25)
	wrongName := def("f", node(api.TreeNode{Kind: api.NameNode, Text: "If"}))
	wrongSize := program(def("f", skip))
	wrongSize.Nodes[1].Size--
	wrongKind := program(def("f", leaf(99)))
	return map[string]bad{
		"nothing":          {api.Tree{}, api.ErrForm},
		"no node":          {api.Tree{Nodes: []api.TreeNode{}}, api.ErrForm},
		"no program":       {api.Tree{Nodes: def("f", skip)}, api.ErrForm},
		"no name":          {program(wrongName), api.ErrForm},
		"a wrong Size":     {wrongSize, api.ErrForm},
		"a wrong kind":     {wrongKind, api.ErrForm},
		"a FnNode":         {program(def("f", node(api.TreeNode{Kind: api.FnNode}, node(api.TreeNode{Kind: api.BindNode, Text: "x"}), skip))), api.ErrForm},
		"too many nodes":   {api.Tree{Nodes: make([]api.TreeNode, 901)}, api.ErrLimit},
		"too deep":         {program(def("f", tooDeep)), api.ErrLimit},
		"too many items":   {program(many...), api.ErrLimit},
		"a number too low": {program(def("f", node(api.TreeNode{Kind: api.NumNode, N: -1}))), api.ErrForm},
	}
}

// text returns a text in which a word is something else.
func text(s, word, x string) string { return strings.ReplaceAll(s, word, x) }
