package parse_test

import (
	"slices"
	"strings"
	"testing"

	"riposte/api"
	"riposte/lex"
	"riposte/parse"
)

// P2.1: the nodes of texts in which each production of the grammar comes.
func TestParse(t *testing.T) {
	for _, x := range []struct {
		s    string
		want []api.TreeNode
	}{
		{"", []api.TreeNode{{Kind: api.ProgramNode, Size: 1}}},
		{" ~ import\n", []api.TreeNode{{Kind: api.ProgramNode, Size: 1}}},
		{"export f():bool=x<1;", []api.TreeNode{{Kind: api.ProgramNode, Size: 6}, {Kind: api.ExportItem, Text: "f", Size: 5}, {Kind: api.IntType, N: 2, At: 11, Size: 1}, {Kind: api.LessNode, At: 17, Size: 3}, {Kind: api.NameNode, Text: "x", At: 16, Size: 1}, {Kind: api.NumNode, N: 1, At: 18, Size: 1}}},
		{"import a:com; import k:(int 2,cell 1000000)->bool;", []api.TreeNode{{Kind: api.ProgramNode, Size: 8}, {Kind: api.ImportItem, Text: "a", Size: 2}, {Kind: api.IntType, N: 1, At: 9, Size: 1}, {Kind: api.ImportItem, Text: "k", At: 14, Size: 5}, {Kind: api.ArrowType, At: 23, Size: 4}, {Kind: api.IntType, N: 2, At: 24, Size: 1}, {Kind: api.CellType, N: 1000000, At: 30, Size: 1}, {Kind: api.IntType, N: 2, At: 45, Size: 1}}},
		{"def g(a:cell 0,b:(com)->int 3):int 0=a;", []api.TreeNode{{Kind: api.ProgramNode, Size: 10}, {Kind: api.DefItem, Text: "g", Size: 9}, {Kind: api.ParamNode, Text: "a", At: 6, Size: 2}, {Kind: api.CellType, At: 8, Size: 1}, {Kind: api.ParamNode, Text: "b", At: 15, Size: 4}, {Kind: api.ArrowType, At: 17, Size: 3}, {Kind: api.IntType, N: 1, At: 18, Size: 1}, {Kind: api.IntType, N: 3, At: 24, Size: 1}, {Kind: api.IntType, At: 31, Size: 1}, {Kind: api.NameNode, Text: "a", At: 37, Size: 1}}},
	} {
		if u := parsed(t, x.s); !slices.Equal(u.Nodes, x.want) {
			t.Errorf("%q: %v", x.s, u.Nodes)
		}
	}
}

// P2.1: the nodes of terms.
func TestParseTerms(t *testing.T) {
	name := func(s string) []api.TreeNode { return named(api.NameNode, s) }
	two := func(kind uint8, x, y []api.TreeNode) []api.TreeNode { return node(api.TreeNode{Kind: kind}, x, y) }
	a, b, c := name("a"), name("b"), name("c")
	as := func(x []api.TreeNode, n int) []api.TreeNode { return node(api.TreeNode{Kind: api.AsNode, N: n}, x) }
	for _, x := range []struct {
		s    string
		want []api.TreeNode
	}{
		{"a", a}, {"((a))", a}, {"7", number(7)}, {"true", leaf(api.TrueNode)}, {"false", leaf(api.FalseNode)}, {"skip", leaf(api.SkipNode)}, {"hang", leaf(api.HangNode)}, {"jump a", named(api.JumpNode, "a")}, {"!a", named(api.GetNode, "a")},
		{"a;b", two(api.SeqNode, a, b)},
		{"a;b;c", node(api.TreeNode{Kind: api.SeqNode}, a, b, c)},
		{"(a;b);c", two(api.SeqNode, two(api.SeqNode, a, b), c)},
		{"a;(b;c)", two(api.SeqNode, a, two(api.SeqNode, b, c))},
		{"if a then b else c", node(api.TreeNode{Kind: api.IfNode}, a, b, c)},
		{"while a do b;c", two(api.SeqNode, two(api.WhileNode, a, b), c)},
		{"new x:3:=2 in a", node(api.TreeNode{Kind: api.NewNode, Text: "x", N: 3, M: 2}, a)},
		{"label l in a else b", node(api.TreeNode{Kind: api.LabelNode, Text: "l"}, a, b)},
		{"notice x:=4 in a;b", two(api.SeqNode, node(api.TreeNode{Kind: api.NoticeNode, Text: "x", N: 4}, a), b)},
		{"choose a else choose b else c", two(api.ChooseNode, a, two(api.ChooseNode, b, c))},
		{"x:=y:=a", node(api.TreeNode{Kind: api.PutNode, Text: "x"}, node(api.TreeNode{Kind: api.PutNode, Text: "y"}, a))},
		{"a or b or c", two(api.OrNode, two(api.OrNode, a, b), c)},
		{"a or b and c", two(api.OrNode, a, two(api.AndNode, b, c))},
		{"a and b and not c", two(api.AndNode, two(api.AndNode, a, b), node(api.TreeNode{Kind: api.NotNode}, c))},
		{"not not a=b", node(api.TreeNode{Kind: api.NotNode}, node(api.TreeNode{Kind: api.NotNode}, two(api.EqNode, a, b)))},
		{"a<b+c", two(api.LessNode, a, two(api.AddNode, b, c))},
		{"a-b+c", two(api.AddNode, two(api.SubNode, a, b), c)},
		{"a-b*c", two(api.SubNode, a, two(api.MulNode, b, c))},
		{"a*b*c", two(api.MulNode, two(api.MulNode, a, b), c)},
		{"a*b as 2 as 3", two(api.MulNode, a, as(as(b, 2), 3))},
		{"(a*b)as 0", as(two(api.MulNode, a, b), 0)},
		{"f(a)", node(api.TreeNode{Kind: api.CallNode, Text: "f"}, a)},
		{"f(a;b,fn(x)a,{get a;put x.b})", node(api.TreeNode{Kind: api.CallNode, Text: "f"}, two(api.SeqNode, a, b), node(api.TreeNode{Kind: api.FnNode}, named(api.BindNode, "x"), a), node(api.TreeNode{Kind: api.ObjectNode}, a, named(api.BindNode, "x"), b))},
		{"f(fn(x,y)g(a))", node(api.TreeNode{Kind: api.CallNode, Text: "f"}, node(api.TreeNode{Kind: api.FnNode}, named(api.BindNode, "x"), named(api.BindNode, "y"), node(api.TreeNode{Kind: api.CallNode, Text: "g"}, a)))},
	} {
		for _, s := range []string{"def f():com=" + x.s + ";", "def f():com=" + x.s + ";def g():com=1;", "import a:com;def f():com=" + x.s + ";import b:com;"} {
			u := parsed(t, s)
			n, _ := parse.Find(u, "f")
			if l, e := parse.Sub(u, n+2); e != api.OK || !slices.Equal(bare(l), x.want) {
				t.Errorf("%q: %v, %v", s, l, e)
			}
		}
	}
}

// P2.1: where a text does not go on, and the errors before and behind that.
func TestParseErrors(t *testing.T) {
	imports := func(n int) string { return strings.Repeat("import a:com;", n) }
	nots := func(n int) string { return "def f():com=" + strings.Repeat("not ", n) + "a;" }
	for _, x := range []struct {
		s  string
		at int
		e  api.Errno
	}{
		{"x", 0, api.ErrForm}, {";", 0, api.ErrForm}, {"if", 0, api.ErrForm}, {" \n(", 2, api.ErrForm}, {"import", 6, api.ErrForm}, {"import ", 7, api.ErrForm}, {"import a ~c", 11, api.ErrForm},
		{"import a com;", 9, api.ErrForm}, {"import a:;", 9, api.ErrForm}, {"import a:int;", 12, api.ErrForm}, {"import a:int x;", 13, api.ErrForm}, {"import a:com", 12, api.ErrForm}, {"import a():com;", 8, api.ErrForm}, {"import 1:com;", 7, api.ErrForm}, {"import a:()->com;", 10, api.ErrForm}, {"import a:(com);", 14, api.ErrForm}, {"import a:(com,)->com;", 14, api.ErrForm}, {"import a:((com)->com)->com;", 10, api.ErrForm}, {"import a:(com)->(com)->com;", 16, api.ErrForm}, {"import a:com->com;", 12, api.ErrForm}, {"import a:bool 2;", 14, api.ErrForm},
		{"def f(:com=a;", 6, api.ErrForm}, {"def f(a):com=a;", 7, api.ErrForm}, {"def f(a:com,):com=a;", 12, api.ErrForm}, {"def f(,):com=a;", 6, api.ErrForm}, {"def f():(com)->com=a;", 8, api.ErrForm}, {"def f():com:=a;", 11, api.ErrForm}, {"def f()=a;", 7, api.ErrForm}, {"export in():com=a;", 7, api.ErrForm}, {"def f:com=a;", 5, api.ErrForm},
		{"def f():com=;", 12, api.ErrForm}, {"def f():com=a;;", 14, api.ErrForm}, {"def f():com=a", 13, api.ErrForm}, {"def f():com=a;b", 15, api.ErrForm}, {"def f():com=a; b ", 17, api.ErrForm}, {"def f():com=a b;", 14, api.ErrForm}, {"def f():com=a;def", 17, api.ErrForm}, {"def f():com=a;b;x y", 18, api.ErrForm},
		{"def f():com=(a;import g:com;", 14, api.ErrForm}, {"def f():com=(a;", 14, api.ErrForm}, {"def f():com=f(a;def", 15, api.ErrForm}, {"def f():com=if a;b", 16, api.ErrForm}, {"def f():com=(a;b", 16, api.ErrForm},
		{"def f():com=f({get a;def", 21, api.ErrForm}, {"def f():com=f({get a;", 21, api.ErrForm}, {"def f():com=f({get a;b;put x.c});", 21, api.ErrForm}, {"def f():com=f({put x.c});", 15, api.ErrForm}, {"def f():com=f({get a put x.c});", 21, api.ErrForm}, {"def f():com=f({get a;put 1.c});", 25, api.ErrForm}, {"def f():com=f({get a;put x c});", 27, api.ErrForm}, {"def f():com=f({get a;put x.b;c});", 28, api.ErrForm}, {"def f():com={get a;put x.b};", 12, api.ErrForm}, {"def f():com=1+{get a;put x.b};", 14, api.ErrForm},
		{"def f():com=f();", 14, api.ErrForm}, {"def f():com=f(a,);", 16, api.ErrForm}, {"def f():com=f(a b);", 16, api.ErrForm}, {"def f():com=f(a;);", 16, api.ErrForm}, {"def f():com=f(fn()a);", 17, api.ErrForm}, {"def f():com=f(fn(x,)a);", 19, api.ErrForm}, {"def f():com=f(fn(x)a;b);", 20, api.ErrForm}, {"def f():com=f(fn x a);", 17, api.ErrForm}, {"def f():com=fn(x)a;", 12, api.ErrForm}, {"def f():com=(fn(x)a);", 13, api.ErrForm}, {"def f():com=f(a)(b);", 16, api.ErrForm}, {"def f():com=1(b);", 13, api.ErrForm},
		{"def f():com=a=b=c;", 15, api.ErrForm}, {"def f():com=a<b=c;", 15, api.ErrForm}, {"def f():com=1 or if a then b else c;", 17, api.ErrForm}, {"def f():com=1+not a;", 14, api.ErrForm}, {"def f():com=a=not b;", 14, api.ErrForm}, {"def f():com=1+x:=2;", 15, api.ErrForm}, {"def f():com=not x:=2;", 17, api.ErrForm}, {"def f():com=f(a):=2;", 16, api.ErrForm}, {"def f():com=-1;", 12, api.ErrForm}, {"def f():com=a as x;", 17, api.ErrForm}, {"def f():com=not a as 2 as;", 25, api.ErrForm}, {"def f():com=!1;", 13, api.ErrForm}, {"def f():com=jump 1;", 17, api.ErrForm}, {"def f():com=();", 13, api.ErrForm},
		{"def f():com=if a then b;", 23, api.ErrForm}, {"def f():com=if a else b;", 17, api.ErrForm}, {"def f():com=if a then b;c else d;", 23, api.ErrForm}, {"def f():com=while a b;", 20, api.ErrForm}, {"def f():com=new x:1:=0 a;", 23, api.ErrForm}, {"def f():com=new x:1=0 in a;", 19, api.ErrForm}, {"def f():com=new x:1: =0 in a;", 19, api.ErrForm}, {"def f():com=new x:y:=0 in a;", 18, api.ErrForm}, {"def f():com=label l in a;", 24, api.ErrForm}, {"def f():com=label l a else b;", 20, api.ErrForm}, {"def f():com=notice x=1 in a;", 20, api.ErrForm}, {"def f():com=notice x:=a in a;", 22, api.ErrForm}, {"def f():com=choose a;", 20, api.ErrForm}, {"def f():com=put;", 12, api.ErrForm}, {"def f():com=of;", 12, api.ErrForm},
		{"x\t", 1, api.ErrArg}, {strings.Repeat(" ", 2501), 0, api.ErrLimit}, {"x #", 2, api.ErrForm}, {"x 01", 2, api.ErrForm}, {"x 1000001", 2, api.ErrRange}, {"x abcdefghijklm", 2, api.ErrForm}, {strings.Repeat(";", 901), 900, api.ErrLimit}, {strings.Repeat(";", 900), 0, api.ErrForm},
		{imports(25), 0, api.ErrLimit}, {imports(25) + "x", 325, api.ErrForm}, {nots(59), 0, api.ErrLimit}, {nots(59) + "def", 253, api.ErrForm}, {"def f():com=" + strings.Repeat("(", 888), 900, api.ErrForm}, {"def f():com=" + strings.Repeat("not ", 589), 2368, api.ErrForm},
	} {
		u, at, e := parse.Parse(x.s)
		if at != x.at || e != x.e || len(u.Nodes) > 0 {
			t.Errorf("%.60q: %v, %d, %v", x.s, u, at, e)
		}
	}
}

// R7: each limit of trees can be reached by a text.
func TestParseLimits(t *testing.T) {
	if u := parsed(t, strings.Repeat("import a:com;", 24)); len(u.Nodes) != 49 {
		t.Errorf("24 items: %d", len(u.Nodes))
	}
	if u := parsed(t, "def f():com="+strings.Repeat("not ", 58)+"a;"); len(u.Nodes) != 62 {
		t.Errorf("depth 60: %d", len(u.Nodes))
	}
	if u := parsed(t, "def f():com="+strings.Repeat("(", 440)+"a"+strings.Repeat(")", 440)+";"); len(u.Nodes) != 4 {
		t.Errorf("brackets: %d", len(u.Nodes))
	}
	if u := parsed(t, "def f():com="+strings.Repeat("a;", 446)); len(u.Nodes) != 450 {
		t.Errorf("446 terms: %d", len(u.Nodes))
	}
}

// P2.1: Parse goes on, and has an error, where the grammar does.
func TestParseByTheGrammar(t *testing.T) {
	r, g := source(1), newGrammar()
	right, wrong := 0, 0
	for i := range 3000 {
		s := g.sayText(r, 2)
		if i%4 > 0 {
			s = spoilt(r, s)
		}
		l, ok := tokensOf(s)
		if !ok || len(l) > 50 {
			continue // of a long text it would take long to follow the grammar
		}
		_, at, e := parse.Parse(s)
		n := g.follow(l)
		if n < 0 {
			if right++; e != api.OK || at != 0 {
				t.Fatalf("%q: %d, %v", s, at, e)
			}
			continue
		}
		want := len(s)
		if n < len(l) {
			want = l[n].At
		}
		if wrong++; at != want || e != api.ErrForm {
			t.Fatalf("%q: %d, %v, not %d", s, at, e, want)
		}
	}
	if right < 600 || wrong < 600 {
		t.Errorf("%d right texts, %d wrong ones", right, wrong)
	}
}

// P2.1: a text with brackets around all terms has the tree of which it is told, and each node has the place of its token.
func TestParseTrees(t *testing.T) {
	r := source(2)
	kinds := map[uint8]int{}
	for range 1200 {
		x := anyTree(r)
		s := loud(x.Nodes)
		if l, ok := tokensOf(s); !ok || len(l) > 900 {
			continue
		}
		u := parsed(t, s)
		if !same(u, x) {
			t.Fatalf("%q: %v, not %v", s, u, x)
		}
		for n := range u.Nodes {
			kinds[u.Nodes[n].Kind]++
			checkPlace(t, s, u, n)
		}
	}
	for k := range table {
		if kinds[k] < 50 {
			t.Errorf("kind %d: only %d nodes", k, kinds[k])
		}
	}
}

// checkPlace tests the token at the place of a node: its text, and that it stands behind the first kid of what is written between two, and otherwise before all kids.
func checkPlace(t *testing.T, s string, u api.Tree, n int) {
	t.Helper()
	x := u.Nodes[n]
	if n == 0 {
		if x.At != 0 {
			t.Fatalf("%q: the program is at %d", s, x.At)
		}
		return
	}
	words := map[uint8]string{api.ImportItem: "import", api.DefItem: "def", api.ExportItem: "export", api.IntType: "int", api.CellType: "cell", api.ArrowType: "(", api.SeqNode: ";", api.IfNode: "if", api.WhileNode: "while", api.NewNode: "new", api.LabelNode: "label", api.NoticeNode: "notice", api.ChooseNode: "choose", api.OrNode: "or", api.AndNode: "and", api.NotNode: "not", api.EqNode: "=", api.LessNode: "<", api.AddNode: "+", api.SubNode: "-", api.MulNode: "*", api.AsNode: "as", api.TrueNode: "true", api.FalseNode: "false", api.SkipNode: "skip", api.HangNode: "hang", api.JumpNode: "jump", api.GetNode: "!", api.FnNode: "fn", api.ObjectNode: "{"}
	want, ok := words[x.Kind]
	if !ok {
		want = x.Text // the place of a name
	}
	l, _, _ := lex.Tokens(s)
	i := slices.IndexFunc(l, func(k api.Token) bool { return k.At == x.At })
	if i < 0 || x.Kind != api.NumNode && l[i].Text != want || x.Kind == api.NumNode && l[i].Kind != api.TokNumber {
		t.Fatalf("%q: the node %v is no %q", s, x, want)
	}
	between := slices.Contains([]uint8{api.SeqNode, api.OrNode, api.AndNode, api.EqNode, api.LessNode, api.AddNode, api.SubNode, api.MulNode, api.AsNode}, x.Kind)
	for k := n + 1; k < n+x.Size; k++ {
		inFirst := k < n+1+u.Nodes[n+1].Size
		if before := u.Nodes[k].At < x.At; before != (between && inFirst) {
			t.Fatalf("%q: the node %v and the one below it, %v", s, x, u.Nodes[k])
		}
	}
}

// P2.1: com is the size 1, bool the size 2.
func TestParseBases(t *testing.T) {
	for _, s := range []string{"com", "int 1", "bool", "int 2"} {
		u := parsed(t, "import a:"+s+";")
		want := 1
		if s == "bool" || s == "int 2" {
			want = 2
		}
		if u.Nodes[2] != (api.TreeNode{Kind: api.IntType, N: want, At: 9, Size: 1}) {
			t.Errorf("%s: %v", s, u.Nodes[2])
		}
	}
}
