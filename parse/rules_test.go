package parse_test

import (
	"math"
	"reflect"
	"slices"
	"strings"
	"testing"

	"riposte/api"
	"riposte/parse"
)

// calls are all functions of parse, with their results as lists of any.
func calls(s string, x api.Tree, n int, l []api.TreeNode) map[string][]any {
	r := map[string][]any{}
	tell := func(name string, results ...any) { r[name] = results }
	t1, n1, e1 := parse.Parse(s)
	tell("Parse", t1, n1, e1)
	t2, l2, e2 := parse.Recover(s)
	tell("Recover", t2, l2, e2)
	tell("Check", parse.Check(x))
	s4, e4 := parse.Print(x)
	tell("Print", s4, e4)
	s5, e5 := parse.Text(x, n)
	tell("Text", s5, e5)
	l6, e6 := parse.Kids(x, n)
	tell("Kids", l6, e6)
	n7, e7 := parse.Up(x, n)
	tell("Up", n7, e7)
	l8, e8 := parse.Sub(x, n)
	tell("Sub", l8, e8)
	t9, e9 := parse.Graft(x, n, l)
	tell("Graft", t9, e9)
	n10, e10 := parse.Find(x, s)
	tell("Find", n10, e10)
	t11, e11 := parse.Bare(x)
	tell("Bare", t11, e11)
	return r
}

// isZero tells whether a result is its zero value (a list: empty).
func isZero(x any) bool {
	v := reflect.ValueOf(x)
	if u, ok := x.(api.Tree); ok {
		return len(u.Nodes) == 0
	}
	return v.IsZero() || v.Kind() == reflect.Slice && v.Len() == 0
}

// strange are texts, right and wrong ones.
var strange = []string{
	"", "f", "x", "if", ";", "import", "import f:com;", "def f():com=", "def f():com=a;", "\x00", "é", "# def", "1000001", "~ a", strings.Repeat("(", 900), "def f():com=" + strings.Repeat("(", 800), "def f():com=" + strings.Repeat("f(", 440), "def f():com=" + strings.Repeat("not ", 600), "def f():com=f(" + strings.Repeat("{get ", 400), strings.Repeat("def ", 600), strings.Repeat("if ", 833), strings.Repeat("\xff", 3000),
}

// anyNodes returns nodes that no function has made.
func anyNodes(n int, next func(int) int) []api.TreeNode {
	numbers := []int{math.MinInt, -1, 0, 1, 2, 3, 7, 1000000, 1000001, math.MaxInt}
	var l []api.TreeNode
	for range n {
		x := api.TreeNode{Kind: uint8(next(40)), Size: numbers[next(len(numbers))]}
		if next(3) == 0 {
			x.N, x.M, x.At = numbers[next(len(numbers))], numbers[next(len(numbers))], numbers[next(len(numbers))]
		}
		if next(2) == 0 {
			x.Text = strange[next(len(strange))]
		}
		l = append(l, x)
	}
	return l
}

// P1, P2, R2 and R8: all functions, with any values.
func TestAnyValues(t *testing.T) {
	r := source(14)
	for i := range 2500 {
		s, n := pick(r, strange...), pick(r, math.MinInt, -1, 0, 1, 2, 5, 899, 900, math.MaxInt)
		x, l := api.Tree{Nodes: anyNodes(r.Intn(6), r.Intn)}, anyNodes(r.Intn(4), r.Intn)
		switch i % 4 {
		case 1:
			x = anyTree(r)
		case 2:
			x = anyTree(r)
			n = r.Intn(len(x.Nodes))
		}
		x2, l2 := slices.Clone(x.Nodes), slices.Clone(l)
		first := calls(s, x, n, l)
		for name, results := range first {
			at := name == "Parse" && results[2] == api.ErrForm
			for k, result := range results[:len(results)-1] {
				if e := results[len(results)-1]; e != api.OK && !isZero(result) && !(k == 1 && name == "Parse" && e != api.ErrLimit) && !at {
					t.Fatalf("%s: %.200v", name, results)
				}
			}
		}
		if first["Parse"][2] == api.OK && first["Parse"][1] != 0 {
			t.Fatalf("%v", first["Parse"])
		}
		if second := calls(s, api.Tree{Nodes: x2}, n, l2); !reflect.DeepEqual(first, second) {
			t.Fatalf("%.100q, %v, %d, %v: results differ", s, x, n, l)
		}
		if !slices.Equal(x.Nodes, x2) || !slices.Equal(l, l2) {
			t.Fatal("an argument was changed")
		}
	}
}

// spare returns a list with room behind its end, and all of the memory.
func spare(l []api.TreeNode) (list, all []api.TreeNode) {
	all = append(slices.Clone(l), slices.Repeat([]api.TreeNode{{Text: "sentinel", Size: 7}}, 8)...)
	return all[:len(l)], all
}

// fill changes all memory of a list.
func fill[T any](l []T, x T) {
	l = l[:cap(l)]
	for i := range l {
		l[i] = x
	}
}

// P2 and R4: neither arguments nor what lies behind their ends are changed; results are new memory.
func TestMemory(t *testing.T) {
	const text = "import a:com; def f(x:bool):com=if x then a else(a;b);"
	nodes, all := spare(parsed(t, text).Nodes)
	l, allL := spare(node(api.TreeNode{Kind: api.SeqNode}, number(1), number(2)))
	wantNodes, wantL := slices.Clone(all), slices.Clone(allL)
	for n := range nodes {
		want := calls(text, api.Tree{Nodes: nodes}, n, l)
		for range 3 {
			got := calls(text, api.Tree{Nodes: nodes}, n, l)
			if !reflect.DeepEqual(got, want) {
				t.Fatalf("%d: %v, not %v", n, got, want)
			}
			for _, results := range got {
				switch x := results[0].(type) {
				case api.Tree:
					fill(x.Nodes, api.TreeNode{Text: "spoilt", Size: -9})
				case []api.TreeNode:
					fill(x, api.TreeNode{Text: "spoilt", Size: -9})
				case []int:
					fill(x, -99)
				}
			}
			if !slices.Equal(all, wantNodes) || !slices.Equal(allL, wantL) {
				t.Fatalf("%d: an argument, or what lies behind it, was changed", n)
			}
		}
	}
}

// R3: nil and empty lists are the same.
func TestNilAndEmpty(t *testing.T) {
	for _, x := range []api.Tree{{}, {Nodes: []api.TreeNode{}}} {
		for _, l := range [][]api.TreeNode{nil, {}} {
			for name, results := range calls("", x, 0, l) {
				e := results[len(results)-1]
				if read := name == "Parse" || name == "Recover"; read && e != api.OK || !read && e != api.ErrForm {
					t.Errorf("%s: %v", name, results)
				}
			}
			u := parsed(t, "def f(x:com):com=1;")
			if v, e := parse.Graft(u, 2, l); e != api.OK || len(v.Nodes) != 4 {
				t.Errorf("Graft of nothing: %v, %v", v, e)
			}
		}
	}
}
