package check_test

import (
	"math"
	"reflect"
	"slices"
	"strings"
	"testing"

	"riposte/api"
	"riposte/check"
	"riposte/parse"
)

// allCalls are all functions of check, with their results as lists of any.
func allCalls(x api.Tree, n int, s string) map[string][]any {
	r := map[string][]any{}
	tell := func(name string, results ...any) { r[name] = results }
	n1, e1 := check.Program(x)
	tell("Program", n1, e1)
	n2, e2 := check.Item(x, n)
	tell("Item", n2, e2)
	n3, e3 := check.Means(x, n)
	tell("Means", n3, e3)
	l4, e4 := check.Uses(x, n)
	tell("Uses", l4, e4)
	t5, e5 := check.Type(x, n)
	tell("Type", t5, e5)
	n6, e6 := check.Size(x, n)
	tell("Size", n6, e6)
	l7, e7 := check.Sight(x, n)
	tell("Sight", l7, e7)
	n8, e8 := check.Effects(x, n)
	tell("Effects", n8, e8)
	l9, e9 := check.Reach(x, n)
	tell("Reach", l9, e9)
	a10, l10, e10 := check.Arena(x, s, true)
	tell("Arena", a10, l10, e10)
	t11, e11 := check.Rename(x, n, s)
	tell("Rename", t11, e11)
	return r
}

// isZero tells whether a result is its zero value (a list: empty).
func isZero(x any) bool {
	v := reflect.ValueOf(x)
	switch y := x.(type) {
	case api.Tree:
		return len(y.Nodes) == 0
	case api.Type:
		return sameType(y, api.Type{})
	case api.Arena:
		return sameArena(y, api.Arena{})
	}
	return v.IsZero() || v.Kind() == reflect.Slice && v.Len() == 0
}

// P1 and R1: of a tree with an error all functions have this first, and zero values.
func TestBadTrees(t *testing.T) {
	for what, x := range badTrees() {
		for _, n := range []int{math.MinInt, -1, 0, 1, 3, 900, math.MaxInt} {
			for _, s := range []string{"", "f", "in", "z"} {
				for name, results := range allCalls(x.x, n, s) {
					last := len(results) - 1
					if results[last] != x.e || slices.ContainsFunc(results[:last], func(y any) bool { return !isZero(y) }) {
						t.Errorf("%s of %s with %d, %q: %v, not %v", name, what, n, s, results, x.e)
					}
				}
			}
		}
	}
}

// R1: a number out of range comes behind the errors of a tree, and before all others.
func TestNumbersOutOfRange(t *testing.T) {
	for _, s := range []string{"", "export m():com=1;", "import a:int 65;import a:com;", theProgram} {
		x := parsed(t, s)
		for _, n := range []int{math.MinInt, -1, len(x.Nodes), 900, math.MaxInt} {
			for name, results := range allCalls(x, n, "in") {
				want := results[len(results)-1] == api.ErrRange
				if without := name == "Program" || name == "Arena"; !without && !want {
					t.Errorf("%s of %q with %d: %v", name, s, n, results)
				}
			}
		}
	}
}

// anyNodes returns nodes that no function has made.
func anyNodes(n int, next func(int) int) []api.TreeNode {
	numbers := []int{math.MinInt, -1, 0, 1, 2, 3, 7, 1000000, 1000001, math.MaxInt}
	words := []string{"", "f", "x", "in", "X", "\x00", strings.Repeat("x", 3000)}
	var l []api.TreeNode
	for range n {
		x := api.TreeNode{Kind: uint8(next(40)), Size: numbers[next(len(numbers))]}
		if next(3) == 0 {
			x.N, x.M, x.At = numbers[next(len(numbers))], numbers[next(len(numbers))], numbers[next(len(numbers))]
		}
		if next(2) == 0 {
			x.Text = words[next(len(words))]
		}
		l = append(l, x)
	}
	return l
}

// P1, P2, R2 and R8: all functions, with any values.
func TestAnyValues(t *testing.T) {
	r := source(14)
	for i := range 2000 {
		x := api.Tree{Nodes: anyNodes(r.Intn(6), r.Intn)}
		if i%3 > 0 {
			x = anyProgram(r)
		}
		if i%3 == 2 {
			// Some field of a right tree becomes anything.
			x.Nodes[r.Intn(len(x.Nodes))] = anyNodes(1, r.Intn)[0]
		}
		n := pick(r, math.MinInt, -1, 0, 1, 2, 5, 899, 900, math.MaxInt, r.Intn(len(x.Nodes)+1))
		s := pick(r, "", "in", "x", "v1", "i0", "i1", "other", "\xff")
		before := slices.Clone(x.Nodes)
		first := allCalls(x, n, s)
		for name, results := range first {
			last := len(results) - 1
			at := name == "Program" || name == "Item"
			for _, result := range results[:last] {
				if !at && results[last] != api.OK && !isZero(result) {
					t.Fatalf("%s with %d: %v", name, n, results)
				}
			}
		}
		if second := allCalls(api.Tree{Nodes: before}, n, s); !reflect.DeepEqual(first, second) {
			t.Fatalf("%v, %d, %q: results differ", x, n, s)
		}
		if !slices.Equal(x.Nodes, before) {
			t.Fatal("an argument was changed")
		}
	}
}

// P3.1 and R2: where an error is told it is one of the tree's nodes; without an error, or with one of the tree, of the number or of no item, it is 0.
func TestPlacesOfErrors(t *testing.T) {
	r := source(15)
	for range 500 {
		x := anyProgram(r)
		inItem := []api.Errno{api.ErrTwice, api.ErrRange, api.ErrName, api.ErrType}
		if n, e := check.Program(x); slices.Contains(inItem, e) != (n > 0) || n < 0 || n >= len(x.Nodes) {
			t.Fatalf("Program: %d, %v", n, e)
		}
		for k := range x.Nodes {
			if n, e := check.Item(x, k); slices.Contains(inItem, e) != (n > 0) || n > 0 && (n < k || n >= k+x.Nodes[k].Size) {
				t.Fatalf("Item of %d: %d, %v", k, n, e)
			}
		}
	}
}

// fill changes all memory of a list.
func fill[T any](l []T, x T) {
	l = l[:cap(l)]
	for i := range l {
		l[i] = x
	}
}

// spoil changes all memory of a result.
func spoil(x any) {
	base := api.Base{Cell: true, N: -9}
	switch y := x.(type) {
	case []int:
		fill(y, -99)
	case api.Tree:
		fill(y.Nodes, api.TreeNode{Text: "spoilt", Size: -9})
	case api.Type:
		fill(y.Params, base)
	case api.Arena:
		for _, k := range y.Ids {
			fill(k.Params, base)
		}
		fill(y.Ids, api.Type{Result: base})
	case []api.Declared:
		for _, k := range y {
			fill(k.Type.Params, base)
		}
		fill(y, api.Declared{Name: "spoilt"})
	}
}

// P2 and R4: neither arguments nor what lies behind their ends are changed; results are new memory.
func TestMemory(t *testing.T) {
	x := parsed(t, theProgram)
	all := append(slices.Clone(x.Nodes), slices.Repeat([]api.TreeNode{{Text: "sentinel", Size: 7}}, 8)...)
	want := slices.Clone(all)
	nodes := all[:len(x.Nodes)]
	for n := range nodes {
		for _, s := range []string{"m", "z"} {
			first := allCalls(api.Tree{Nodes: nodes}, n, s)
			for range 3 {
				got := allCalls(api.Tree{Nodes: nodes}, n, s)
				if !reflect.DeepEqual(got, first) {
					t.Fatalf("%d: %v, not %v", n, got, first)
				}
				for _, results := range got {
					for _, y := range results {
						spoil(y)
					}
				}
				if !slices.Equal(all, want) {
					t.Fatalf("%d: an argument, or what lies behind it, was changed", n)
				}
			}
		}
	}
}

// R3 and R7: an empty program has no error, and nothing in it.
func TestEmptyPrograms(t *testing.T) {
	for _, x := range []api.Tree{parsed(t, ""), parsed(t, " ~ nothing\n"), program()} {
		for name, results := range allCalls(x, 0, "m") {
			want := api.ErrNone
			if name == "Program" || name == "Sight" {
				want = api.OK
			}
			last := len(results) - 1
			if results[last] != want || slices.ContainsFunc(results[:last], func(y any) bool { return !isZero(y) }) {
				t.Errorf("%s: %v", name, results)
			}
		}
	}
}

// R8: the places of tokens may be anything.
func TestPlacesDoNotMatter(t *testing.T) {
	x := parsed(t, theProgram)
	y, _ := parse.Bare(x)
	z := api.Tree{Nodes: slices.Clone(x.Nodes)}
	for n := range z.Nodes {
		z.Nodes[n].At = []int{math.MinInt, -1, math.MaxInt}[n%3]
	}
	for n := range x.Nodes {
		want := allCalls(x, n, "m")
		for _, u := range []api.Tree{y, z} {
			got := allCalls(u, n, "m")
			delete(want, "Rename")
			delete(got, "Rename")
			if !reflect.DeepEqual(got, want) {
				t.Errorf("%d: %v, not %v", n, got, want)
			}
		}
	}
	if u, e := check.Rename(z, 1, "z"); e != api.OK || u.Nodes[1].At != z.Nodes[1].At || u.Nodes[len(u.Nodes)-1] != z.Nodes[len(u.Nodes)-1] {
		t.Errorf("Rename: %v, %v", u, e)
	}
}
