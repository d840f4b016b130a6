package parse_test

import (
	"math"
	"slices"
	"strings"
	"testing"

	"riposte/api"
	"riposte/parse"
)

// oneItem returns a program with a node in its place: as an item, a type, a param, a term, or an argument.
func oneItem(kind uint8, x []api.TreeNode) api.Tree {
	base := node(api.TreeNode{Kind: api.IntType, N: 1})
	item := api.TreeNode{Kind: api.DefItem, Text: "f"}
	call := api.TreeNode{Kind: api.CallNode, Text: "f"}
	switch table[kind].letter {
	case "P":
		return api.Tree{Nodes: x}
	case "i":
		return program(x)
	case "y", "b":
		return program(node(api.TreeNode{Kind: api.ImportItem, Text: "f"}, x))
	case "p":
		return program(node(item, x, base, number(1)))
	case "f", "o":
		return program(node(item, base, node(call, x)))
	case "n":
		return program(node(item, base, node(call, node(api.TreeNode{Kind: api.FnNode}, x, number(1)))))
	}
	return program(node(item, base, x))
}

// sample returns the smallest right node of a kind with a letter, or one of a kind.
func sample(letter byte) []api.TreeNode {
	kind := map[byte]uint8{'i': api.ImportItem, 'p': api.ParamNode, 'y': api.ArrowType, 'b': api.IntType, 't': api.SkipNode, 'f': api.FnNode, 'o': api.ObjectNode, 'n': api.BindNode}[letter]
	kids := map[byte]string{'i': "b", 'p': "b", 'y': "bb", 'f': "nt", 'o': "tnt"}[letter]
	return sampleOf(kind, kids)
}

func sampleOf(kind uint8, kids string) []api.TreeNode {
	x := api.TreeNode{Kind: kind}
	if strings.Contains(table[kind].fields, "T") {
		x.Text = "x"
	}
	if strings.Contains(table[kind].fields, "N") {
		x.N = 1
	}
	var l [][]api.TreeNode
	for _, c := range []byte(kids) {
		l = append(l, sample(c))
	}
	return node(x, l...)
}

// rowsOf returns all rows of at most n letters.
func rowsOf(n int) []string {
	l := []string{""}
	for from := 0; n > 0; n-- {
		end := len(l)
		for _, s := range l[from:end] {
			for _, c := range "ipybtfon" {
				l = append(l, s+string(c))
			}
		}
		from = end
	}
	return l
}

// P2.3: each kind with all rows of at most three kids, and some of four.
func TestCheckKids(t *testing.T) {
	rows := rowsOf(3)
	for _, s := range rows {
		rows = append(rows, s+"t", "b"+s)
	}
	for kind := range table {
		right := 0
		for _, kids := range rows {
			x := oneItem(kind, sampleOf(kind, kids))
			want := rowError(x)
			if want == api.OK {
				right++
			}
			if e := parse.Check(x); e != want {
				t.Fatalf("kind %d of %q: %v, not %v", kind, kids, e, want)
			}
		}
		if right == 0 {
			t.Errorf("kind %d: no right one", kind)
		}
	}
}

// P2.3: each kind with fields that are told, and that are not.
func TestCheckFields(t *testing.T) {
	kids := map[string]string{"i*": "", "[yb]": "b", "p*bt": "bt", "bb+": "bb", "tt+": "tt", "n+t": "nt", "[tfo]+": "t"}
	names := append([]string{"", "x", "aB9", "abcdefghijkl", "abcdefghijklm", "X", "1", "x ", " x", "x;", "x_", "x~", "é", "x\x00", "+", "1a", "intx", strings.Repeat("z", 5000)}, keywords...)
	numbers := []int{math.MinInt, -1, 0, 1, 2, 1000000, 1000001, math.MaxInt}
	for kind, row := range table {
		pattern, ok := kids[row.kids]
		if !ok {
			pattern = row.kids
		}
		tryFields := func(s string, n, m int) {
			l := sampleOf(kind, pattern)
			l[0].Text, l[0].N, l[0].M = s, n, m
			x := oneItem(kind, l)
			if e, want := parse.Check(x), rowError(x); e != want {
				t.Errorf("kind %d with %.20q, %d, %d: %v, not %v", kind, s, n, m, e, want)
			}
		}
		for _, s := range names {
			tryFields(s, 0, 0)
		}
		for _, s := range []string{"", "x"} {
			for _, n := range numbers {
				tryFields(s, n, 0)
				tryFields(s, 0, n)
				tryFields(s, n, n)
			}
		}
	}
}

// P2.3: kinds that there are not, as a program, an item, a term and a base.
func TestCheckKinds(t *testing.T) {
	for kind := range 256 {
		for n := range 4 {
			x := parsed(t, "def f():com=a;")
			x.Nodes[n].Kind = uint8(kind)
			if e, want := parse.Check(x), rowError(x); e != want {
				t.Errorf("kind %d of the node %d: %v, not %v", kind, n, e, want)
			}
		}
	}
}

// P2.3: Sizes, of each node of a tree, and At.
func TestCheckSizes(t *testing.T) {
	sizes := []int{math.MinInt, -1, 0, 1, 2, 3, 4, 5, 6, 7, 8, 9, 10, 11, 12, 13, 899, 901, math.MaxInt - 3, math.MaxInt}
	right := parsed(t, "import a:com; def f(x:bool):com=if x then(a;b)else f(x);")
	for n := range right.Nodes {
		for _, size := range sizes {
			x := api.Tree{Nodes: slices.Clone(right.Nodes)}
			x.Nodes[n].Size = size
			want := api.ErrForm
			if size == right.Nodes[n].Size {
				want = api.OK
			}
			if e := parse.Check(x); e != want {
				t.Errorf("Size %d of the node %d: %v", size, n, e)
			}
		}
		for _, at := range []int{math.MinInt, -1, 7, math.MaxInt} {
			x := api.Tree{Nodes: slices.Clone(right.Nodes)}
			x.Nodes[n].At = at
			if e := parse.Check(x); e != api.OK {
				t.Errorf("At %d of the node %d: %v", at, n, e)
			}
		}
	}
}

// P2.3: the limits, each reached and passed, and which error comes first.
func TestCheckLimits(t *testing.T) {
	skips := func(n int) api.Tree {
		return program(def(node(api.TreeNode{Kind: api.SeqNode}, slices.Repeat([][]api.TreeNode{leaf(api.SkipNode)}, n)...)))
	}
	deep := func(n int) []api.TreeNode {
		x := leaf(api.SkipNode)
		for range n - 2 {
			x = node(api.TreeNode{Kind: api.NotNode}, x)
		}
		return def(x)
	}
	items := func(n int) api.Tree { return program(slices.Repeat([][]api.TreeNode{sample('i')}, n)...) }
	wrong := func(x api.Tree) api.Tree {
		x.Nodes[len(x.Nodes)-1].N = -1
		return x
	}
	for i, x := range []struct {
		u api.Tree
		e api.Errno
	}{
		{skips(896), api.OK}, {skips(897), api.ErrLimit}, {wrong(skips(896)), api.ErrForm}, {wrong(skips(897)), api.ErrLimit}, {api.Tree{Nodes: make([]api.TreeNode, 901)}, api.ErrLimit}, {api.Tree{Nodes: make([]api.TreeNode, 900)}, api.ErrForm}, {api.Tree{Nodes: make([]api.TreeNode, 100000)}, api.ErrLimit},
		{program(deep(60)), api.OK}, {program(deep(61)), api.ErrLimit}, {program(deep(500)), api.ErrLimit}, {wrong(program(deep(61))), api.ErrForm}, {program(sample('i'), deep(61), sample('i')), api.ErrLimit}, {program(deep(3), deep(60), deep(3)), api.OK},
		{items(24), api.OK}, {items(25), api.ErrLimit}, {wrong(items(25)), api.ErrForm}, {items(450), api.ErrLimit}, {items(449), api.ErrLimit},
		{api.Tree{}, api.ErrForm}, {api.Tree{Nodes: []api.TreeNode{}}, api.ErrForm}, {api.Tree{Nodes: make([]api.TreeNode, 1)}, api.ErrForm}, {program(), api.OK},
		{api.Tree{Nodes: sample('i')}, api.ErrForm}, {api.Tree{Nodes: sample('t')}, api.ErrForm}, {program([]api.TreeNode{{Kind: api.ProgramNode, Size: 1}}), api.ErrForm},
		{api.Tree{Nodes: append(program().Nodes, sample('i')...)}, api.ErrForm}, {api.Tree{Nodes: append(program().Nodes, program().Nodes...)}, api.ErrForm},
	} {
		if e := parse.Check(x.u); e != x.e {
			t.Errorf("%d: %v, not %v", i, e, x.e)
		}
	}
}

// P2.3: trees that no function has made.
func TestCheckAnyTrees(t *testing.T) {
	r := source(5)
	right, wrong := 0, 0
	for i := range 6000 {
		x := anyTree(r)
		for range i % 3 {
			l := x.Nodes
			n := r.Intn(len(l))
			switch r.Intn(7) {
			case 0:
				l[n].Kind = uint8(r.Intn(40))
			case 1:
				l[n].Size += pick(r, -1, 1, 2)
			case 2:
				l[n].Text = pick(r, "", "x", "if", "X")
			case 3:
				l[n].N = pick(r, 0, 1, 2, -1, 1000001)
			case 4:
				l[n].M = pick(r, 0, 1, -1, 1000001)
			case 5:
				x.Nodes = slices.Delete(l, n, n+1)
				if len(x.Nodes) > 0 {
					x.Nodes[0].Size = len(x.Nodes)
				}
			case 6:
				l[n].Kind = l[r.Intn(len(l))].Kind
			}
			if len(x.Nodes) == 0 {
				break
			}
		}
		want := rowError(x)
		if want == api.OK {
			right++
		} else {
			wrong++
		}
		if e := parse.Check(x); e != want {
			t.Fatalf("%v: %v, not %v", x, e, want)
		}
	}
	if right < 1000 || wrong < 1000 {
		t.Errorf("%d right ones, %d wrong ones", right, wrong)
	}
}

// All functions with a tree have its errors first.
func TestErrorsOfTrees(t *testing.T) {
	long := api.Tree{Nodes: make([]api.TreeNode, 901)}
	many := program(slices.Repeat([][]api.TreeNode{sample('i')}, 25)...)
	for _, x := range []struct {
		u api.Tree
		e api.Errno
	}{{api.Tree{}, api.ErrForm}, {api.Tree{Nodes: sample('t')}, api.ErrForm}, {long, api.ErrLimit}, {many, api.ErrLimit}} {
		for _, n := range []int{-1, 0, 1, 1000} {
			_, e1 := parse.Print(x.u)
			_, e2 := parse.Text(x.u, n)
			_, e3 := parse.Kids(x.u, n)
			_, e4 := parse.Up(x.u, n)
			_, e5 := parse.Sub(x.u, n)
			_, e6 := parse.Graft(x.u, n, program().Nodes)
			_, e7 := parse.Find(x.u, "")
			_, e8 := parse.Bare(x.u)
			if l := []api.Errno{e1, e2, e3, e4, e5, e6, e7, e8}; !slices.Equal(l, slices.Repeat([]api.Errno{x.e}, 8)) {
				t.Errorf("the node %d: %v, not %v", n, l, x.e)
			}
		}
	}
}
