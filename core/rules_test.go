package core_test

import (
	"math/rand"
	"reflect"
	"slices"
	"testing"

	"riposte/api"
	"riposte/core"
	"riposte/sample"
)

// request is what all functions can be asked for.
type request struct {
	x     api.Tree
	a     api.Arena
	t     api.Term
	s     string
	to    []int
	jumps bool
}

// calls are all functions, with their results as lists of any.
func calls(x request) map[string][]any {
	r := map[string][]any{}
	tell := func(name string, results ...any) { r[name] = results }
	a, u, e := core.Of(x.x, "m", x.jumps)
	tell("Of", a, u, e)
	tell("Check", core.Check(x.a, x.t))
	n, e := core.Size(x.a, x.t)
	tell("Size", n, e)
	n, e = core.Nodes(x.t)
	tell("Nodes", n, e)
	l, e := core.Uses(x.a, x.t)
	tell("Uses", l, e)
	s, e := core.Text(x.a, x.t)
	tell("Text", s, e)
	u, e = core.Parse(x.a, x.s)
	tell("Parse", u, e)
	tree, e := core.Tree(x.a, x.t)
	tell("Tree", tree, e)
	a, u, e = core.Renumber(x.a, x.t, x.to)
	tell("Renumber", a, u, e)
	return r
}

// isZero tells whether a result is its zero value (a list: empty).
func isZero(x any) bool {
	v := reflect.ValueOf(x)
	return v.IsZero() || v.Kind() == reflect.Slice && v.Len() == 0
}

// bentArena returns an arena some of whose numbers are others.
func bentArena(r *rand.Rand, a api.Arena) api.Arena {
	a = copiedArena(a)
	switch r.Intn(8) {
	case 0:
		a.Root.N = pick(r, values...)
	case 1:
		a.Root.Cell = !a.Root.Cell
	case 2:
		a.Ids = append(a.Ids, api.Type{Result: integer(pick(r, values...))})
	case 3:
		for i := range a.Ids {
			a.Ids[i].Params = append(a.Ids[i].Params, cell(2))
		}
	}
	return a
}

func copiedArena(a api.Arena) api.Arena {
	a.Ids = slices.Clone(a.Ids)
	for i := range a.Ids {
		a.Ids[i].Params = slices.Clone(a.Ids[i].Params)
	}
	return a
}

// bentTree returns a tree some of whose nodes are others.
func bentTree(r *rand.Rand, x api.Tree) api.Tree {
	l := slices.Clone(x.Nodes)
	for range r.Intn(3) {
		y := &l[r.Intn(len(l))]
		switch r.Intn(4) {
		case 0:
			y.Kind = uint8(r.Intn(45))
		case 1:
			y.Text = pick(r, "", "m", "v1", "v2", "v3", "If")
		case 2:
			y.N = pick(r, values...)
		default:
			y.Size = pick(r, values...)
		}
	}
	return api.Tree{Nodes: l}
}

// anyRequest returns a request that is right, or nearly.
func anyRequest(r *rand.Rand) request {
	a, u := randomTerm(r)
	s, _ := core.Text(a, u)
	to, _ := order(r, len(a.Ids))
	x := request{sample.Tree(r.Intn), a, u, s, to, r.Intn(2) == 0}
	if r.Intn(2) == 0 {
		return x
	}
	x.x, x.a, x.t, x.s = bentTree(r, x.x), bentArena(r, a), bent(r, u), spoiled(r, s)
	if len(to) > 0 && r.Intn(3) == 0 {
		x.to[r.Intn(len(to))] = pick(r, values...)
	}
	return x
}

// P1, P2, R2 and R8: all functions, with any values.
func TestAnyValues(t *testing.T) {
	r := source(60)
	right := map[string]int{}
	for range 1000 {
		x := anyRequest(r)
		y := request{api.Tree{Nodes: slices.Clone(x.x.Nodes)}, copiedArena(x.a), copied(x.t), x.s, slices.Clone(x.to), x.jumps}
		first := calls(x)
		for name, l := range first {
			last := len(l) - 1
			if l[last] == api.OK {
				right[name]++
			}
			if l[last] != api.OK && slices.ContainsFunc(l[:last], func(x any) bool { return !isZero(x) }) {
				t.Fatalf("%s: %v", name, l)
			}
		}
		if !reflect.DeepEqual(first, calls(y)) {
			t.Fatal("results differ")
		}
		if !slices.Equal(x.x.Nodes, y.x.Nodes) || !sameArena(x.a, y.a) || !sameTerm(x.t, y.t) || !slices.Equal(x.to, y.to) {
			t.Fatal("an argument was changed")
		}
	}
	for name, many := range right {
		if many < 300 || name != "Nodes" && many > 950 {
			t.Errorf("%s: %d calls without errors", name, many)
		}
	}
}

// roomy returns a list with room behind its end, in which there is something.
func roomy[T any](l []T, x T) []T {
	return append(slices.Clone(l), x, x, x)[:len(l)]
}

// roomyTerm returns a term whose lists all have room behind their ends.
func roomyTerm(x api.Term) api.Term {
	return changed(x, func(y *api.Term) { y.Kids = roomy(y.Kids, api.Term{Kind: 99}) })
}

// untouched tells whether there is still behind the lists of a term what roomyTerm has put there.
func untouched(x api.Term) bool {
	for _, y := range x.Kids[len(x.Kids):min(cap(x.Kids), len(x.Kids)+3)] {
		if y.Kind != 99 {
			return false
		}
	}
	return !slices.ContainsFunc(x.Kids, func(y api.Term) bool { return !untouched(y) })
}

// spoil changes all memory of a result.
func spoil(x any) {
	fill := func(l []int) {
		for i := range l[:cap(l)] {
			l[:cap(l)][i] = -9
		}
	}
	switch y := x.(type) {
	case []int:
		fill(y)
	case api.Tree:
		for i := range y.Nodes {
			y.Nodes[i] = api.TreeNode{Kind: 99}
		}
	case api.Arena:
		for i, k := range y.Ids {
			for j := range k.Params {
				k.Params[j] = api.Base{N: -9}
			}
			y.Ids[i] = api.Type{}
		}
	case api.Term:
		for i, k := range y.Kids {
			spoil(k)
			y.Kids[i] = api.Term{Kind: 98}
		}
	}
}

// R4: neither arguments nor what lies behind their ends are changed; results are new memory, and no two lists of one share any.
func TestMemory(t *testing.T) {
	r := source(61)
	for range 300 {
		x := anyRequest(r)
		x.x.Nodes = roomy(x.x.Nodes, api.TreeNode{Kind: 99})
		x.t = roomyTerm(x.t)
		x.to = roomy(x.to, -7)
		x.a.Ids = roomy(x.a.Ids, api.Type{})
		want := calls(x)
		for _, l := range calls(x) {
			for _, y := range l {
				if z, ok := y.(api.Term); ok {
					checkSeparate(t, z)
				}
				spoil(y)
			}
		}
		if !reflect.DeepEqual(want, calls(x)) {
			t.Fatal("results share memory with arguments")
		}
		behind := slices.Concat(x.to[len(x.to):len(x.to)+3], []int{-7, -7, -7})
		nodes := x.x.Nodes[len(x.x.Nodes) : len(x.x.Nodes)+3]
		if !untouched(x.t) || !slices.Equal(behind[:3], behind[3:]) || slices.ContainsFunc(nodes, func(y api.TreeNode) bool { return y.Kind != 99 }) {
			t.Fatal("what lies behind an argument was changed")
		}
	}
}

// checkSeparate tests that no two nodes of a term share memory: each is marked, and none has been before.
func checkSeparate(t *testing.T, x api.Term) {
	t.Helper()
	for k := range x.Kids {
		if x.Kids[k].N == -77 {
			t.Fatal("two nodes share memory")
		}
		x.Kids[k].N = -77
		checkSeparate(t, x.Kids[k])
	}
}

// R4: the arena that Renumber returns is new memory.
func TestNewArena(t *testing.T) {
	a := place(t, example)
	b, _, _ := core.Renumber(a, api.Term{Kind: api.TermHang}, []int{1, 2, 3})
	spoil(b)
	if !sameArena(a, place(t, example)) {
		t.Errorf("%v", a)
	}
}
