package parse_test

import (
	"slices"
	"strings"
	"testing"

	"riposte/api"
	"riposte/parse"
)

// P2.5, P2.6: Kids, Up and Sub of each node of a tree.
func TestFamily(t *testing.T) {
	u := parsed(t, "import a:com; def f(x:bool):com=if x then a else skip;")
	for n, x := range []struct {
		kids []int
		up   int
	}{{[]int{1, 3}, -1}, {[]int{2}, 0}, {nil, 1}, {[]int{4, 6, 7}, 0}, {[]int{5}, 3}, {nil, 4}, {nil, 3}, {[]int{8, 9, 10}, 3}, {nil, 7}, {nil, 7}, {nil, 7}} {
		l, e := parse.Kids(u, n)
		if !slices.Equal(l, x.kids) || e != api.OK {
			t.Errorf("%d: Kids: %v, %v", n, l, e)
		}
		up, e := parse.Up(u, n)
		if n > 0 && (up != x.up || e != api.OK) || n == 0 && (up != 0 || e != api.ErrNone) {
			t.Errorf("%d: Up: %d, %v", n, up, e)
		}
		sub, e := parse.Sub(u, n)
		if !slices.Equal(sub, u.Nodes[n:n+u.Nodes[n].Size]) || e != api.OK {
			t.Errorf("%d: Sub: %v, %v", n, sub, e)
		}
	}
	for _, n := range []int{-1, 11, 1 << 62, -1 << 63} {
		l, e1 := parse.Kids(u, n)
		up, e2 := parse.Up(u, n)
		sub, e3 := parse.Sub(u, n)
		x, e4 := parse.Graft(u, n, nil)
		if e1 != api.ErrRange || e2 != api.ErrRange || e3 != api.ErrRange || e4 != api.ErrRange || len(l)+up+len(sub)+len(x.Nodes) != 0 {
			t.Errorf("%d: %v, %v, %v, %v", n, e1, e2, e3, e4)
		}
	}
	if l, e := parse.Kids(program(), 0); len(l) != 0 || e != api.OK {
		t.Errorf("no items: %v, %v", l, e)
	}
}

// P2.10: kids and the nodes above them, of any tree.
func TestFamilyOfAny(t *testing.T) {
	r := source(10)
	for range 300 {
		x := anyTree(r)
		all := []int{0}
		for n := range x.Nodes {
			kids, e := parse.Kids(x, n)
			if e != api.OK {
				t.Fatalf("Kids: %v", e)
			}
			size := 1
			for _, k := range kids {
				if up, e := parse.Up(x, k); up != n || e != api.OK {
					t.Fatalf("%v: Up of %d: %d, %v, not %d", x, k, up, e, n)
				}
				size += x.Nodes[k].Size
			}
			if size != x.Nodes[n].Size || !slices.IsSorted(kids) {
				t.Fatalf("%v: the kids of %d: %v", x, n, kids)
			}
			all = append(all, kids...)
		}
		slices.Sort(all)
		for n := range all {
			if all[n] != n || len(all) != len(x.Nodes) {
				t.Fatalf("%v: the kids of all: %v", x, all)
			}
		}
	}
}

// P2.6: what Graft makes of a tree, and its errors.
func TestGraft(t *testing.T) {
	const text = "import a:com; def f(x:bool):com=if x then a else skip;"
	u := parsed(t, text)
	big := slices.Repeat([]api.TreeNode{{Kind: api.SkipNode, Size: 1}}, 900)
	deep := named(api.NameNode, "x")
	for range 57 {
		deep = node(api.TreeNode{Kind: api.NotNode}, deep)
	}
	seq := node(api.TreeNode{Kind: api.SeqNode}, number(1), number(2))
	open := []api.TreeNode{{Kind: api.NotNode, Size: 2}}
	for i, x := range []struct {
		n    int
		l    []api.TreeNode
		want string
		e    api.Errno
	}{
		{9, seq, "import a:com; def f(x:bool):com=if x then(1;2)else skip;", api.OK},
		{7, number(3), "import a:com; def f(x:bool):com=3;", api.OK},
		{3, sample('i'), "import a:com; import x:com;", api.OK},
		{1, def(number(1)), "def f():com=1; def f(x:bool):com=if x then a else skip;", api.OK},
		{2, node(api.TreeNode{Kind: api.CellType, N: 5}), "import a:cell 5; def f(x:bool):com=if x then a else skip;", api.OK},
		{5, sample('y'), "import a:com; def f(x:(com)->com):com=if x then a else skip;", api.OK},
		{0, program(sample('i')).Nodes, "import x:com;", api.OK},
		{0, program().Nodes, "", api.OK},
		{4, nil, "import a:com; def f():com=if x then a else skip;", api.OK},
		{4, slices.Concat(sample('p'), sample('p')), "import a:com; def f(x:com,x:com):com=if x then a else skip;", api.OK},
		{1, nil, "def f(x:bool):com=if x then a else skip;", api.OK},
		{9, nil, "", api.ErrForm}, {0, nil, "", api.ErrForm}, {0, seq, "", api.ErrForm}, {2, nil, "", api.ErrForm}, {6, sample('y'), "", api.ErrForm}, {9, sample('b'), "", api.ErrForm}, {9, slices.Concat(seq, seq), "", api.ErrForm}, {9, sample('f'), "", api.ErrForm}, {1, program().Nodes, "", api.ErrForm},
		{10, open, "", api.ErrForm}, {9, open, "", api.ErrForm}, {9, []api.TreeNode{{Kind: api.SkipNode}}, "", api.ErrForm}, {9, []api.TreeNode{{Kind: api.SkipNode, Size: -1}}, "", api.ErrForm}, {9, number(1000001), "", api.ErrForm},
		{9, big, "", api.ErrLimit}, {9, big[:891], "", api.ErrLimit}, {9, big[:890], "", api.ErrForm}, {9, deep, "import a:com; def f(x:bool):com=if x then " + strings.Repeat("not ", 57) + "x else skip;", api.OK}, {9, node(api.TreeNode{Kind: api.NotNode}, deep), "", api.ErrLimit},
		{1, slices.Concat(slices.Repeat([][]api.TreeNode{sample('i')}, 23)...), strings.Repeat("import x:com;", 23) + "def f(x:bool):com=if x then a else skip;", api.OK}, {1, slices.Concat(slices.Repeat([][]api.TreeNode{sample('i')}, 24)...), "", api.ErrLimit},
		{11, seq, "", api.ErrRange}, {-1, seq, "", api.ErrRange}, {11, big, "", api.ErrRange},
	} {
		v, e := parse.Graft(u, x.n, x.l)
		if e != x.e || e != api.OK && len(v.Nodes) > 0 || e == api.OK && !same(v, parsed(t, x.want)) {
			t.Errorf("%d: %v, %v", i, v, e)
		}
	}
	if !slices.Equal(u.Nodes, parsed(t, text).Nodes) {
		t.Error("Graft has changed its tree")
	}
}

// P2.6: a list of nodes that are no whole node of their own, but make the tree right.
func TestGraftPieces(t *testing.T) {
	u := parsed(t, "def f():com=f(a,b,c);")
	v, e := parse.Graft(u, 4, []api.TreeNode{{Kind: api.SeqNode, Size: 3}})
	if e != api.OK || !same(v, parsed(t, "def f():com=f(b;c);")) {
		t.Errorf("%v, %v", v, e)
	}
	w, e := parse.Graft(v, 4, slices.Concat(named(api.NameNode, "x"), number(1)))
	if e != api.OK || !same(w, parsed(t, "def f():com=f(x,1);")) {
		t.Errorf("%v, %v", w, e)
	}
}

// P2.11: Graft of Sub changes nothing; what was grafted is Sub then; the others stay.
func TestGraftAndSub(t *testing.T) {
	r := source(11)
	grafted := 0
	for range 4000 {
		x, y := anyTree(r), anyTree(r)
		n, m := r.Intn(len(x.Nodes)), r.Intn(len(y.Nodes))
		old, _ := parse.Sub(x, n)
		if u, e := parse.Graft(x, n, old); e != api.OK || !slices.Equal(u.Nodes, x.Nodes) {
			t.Fatalf("%v: %d: %v, %v", x, n, u, e)
		}
		l, _ := parse.Sub(y, m)
		u, e := parse.Graft(x, n, l)
		if e != api.OK {
			continue
		}
		grafted++
		if got, e := parse.Sub(u, n); e != api.OK || !slices.Equal(got, l) {
			t.Fatalf("%v: %d: %v, %v, not %v", x, n, got, e, l)
		}
		longer := len(l) - len(old)
		if len(u.Nodes) != len(x.Nodes)+longer || parse.Check(u) != api.OK {
			t.Fatalf("%v: %v", x, u)
		}
		for k, old := range x.Nodes {
			if above := k < n && k+old.Size > n; above {
				old.Size += longer
			}
			if k < n && u.Nodes[k] != old || k >= n+x.Nodes[n].Size && u.Nodes[k+longer] != old {
				t.Fatalf("%v: %v", x, u)
			}
		}
	}
	if grafted < 800 {
		t.Errorf("only %d grafts", grafted)
	}
}

// P2.7: Find.
func TestFind(t *testing.T) {
	u := parsed(t, "import a:com; def f(x:bool):com=y; export a():com=b; export b():com=1;")
	for _, x := range []struct {
		name string
		n    int
		e    api.Errno
	}{{"a", 1, api.OK}, {"f", 3, api.OK}, {"b", 11, api.OK}, {"x", 0, api.ErrNone}, {"y", 0, api.ErrNone}, {"", 0, api.ErrNone}, {"if", 0, api.ErrNone}, {"A", 0, api.ErrNone}, {"a ", 0, api.ErrNone}} {
		if n, e := parse.Find(u, x.name); n != x.n || e != x.e {
			t.Errorf("%q: %d, %v", x.name, n, e)
		}
	}
	if n, e := parse.Find(program(), "a"); n != 0 || e != api.ErrNone {
		t.Errorf("no items: %d, %v", n, e)
	}
}

// P2.13: Find of an item's name is this item, if no one before has the name.
func TestFindAny(t *testing.T) {
	r := source(12)
	for range 300 {
		x := anyTree(r)
		kids, _ := parse.Kids(x, 0)
		seen := map[string]int{}
		for _, k := range kids {
			name := x.Nodes[k].Text
			if _, ok := seen[name]; !ok {
				seen[name] = k
			}
			if n, e := parse.Find(x, name); n != seen[name] || e != api.OK {
				t.Fatalf("%v: %q: %d, %v", x, name, n, e)
			}
		}
	}
}

// P2.7: Bare.
func TestBare(t *testing.T) {
	r := source(13)
	for range 300 {
		x := anyTree(r)
		before := slices.Clone(x.Nodes)
		u, e := parse.Bare(x)
		if e != api.OK || !slices.Equal(u.Nodes, bare(x.Nodes)) || !slices.Equal(before, x.Nodes) {
			t.Fatalf("%v: %v, %v", x, u, e)
		}
	}
}
