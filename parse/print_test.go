package parse_test

import (
	"slices"
	"strings"
	"testing"

	"riposte/api"
	"riposte/lex"
	"riposte/parse"
)

// P2.4: brackets stand just where they are needed.
func TestTextOfTerms(t *testing.T) {
	for _, x := range []struct{ s, want string }{
		{"(a+b)*c", "(a+b)*c"}, {"(a*b)+c", "a*b+c"}, {"a-(b-c)", "a-(b-c)"}, {"(a-b)-c", "a-b-c"}, {"a*(b*c)", "a*(b*c)"}, {"(a*b)*c", "a*b*c"}, {"a+(b+c)", "a+(b+c)"}, {"a or(b or c)", "a or(b or c)"}, {"(a or b)or c", "a or b or c"}, {"a and(b and c)", "a and(b and c)"}, {"(a and b)or(c and d)", "a and b or c and d"}, {"(a or b)and c", "(a or b)and c"},
		{"not(not(a))", "not not a"}, {"not(a=b)", "not a=b"}, {"(not a)=b", "(not a)=b"}, {"a=(not b)", "a=(not b)"}, {"not(a and b)", "not(a and b)"}, {"(not a)and(not b)", "not a and not b"}, {"(a=b)=c", "(a=b)=c"}, {"a<(b<c)", "a<(b<c)"}, {"(a+b)=(c+d)", "a+b=c+d"}, {"(a=b)+c", "(a=b)+c"}, {"(a=b)and(c<d)", "a=b and c<d"}, {"(not a)*b", "(not a)*b"},
		{"(a as 3)as 4", "a as 3 as 4"}, {"(a*b)as 4", "(a*b)as 4"}, {"a*(b as 4)", "a*b as 4"}, {"(a as 4)*b", "a as 4*b"}, {"(!a)as 4", "!a as 4"}, {"(f(a))as 4", "f(a)as 4"}, {"1 as 4", "1 as 4"},
		{"f((a;b),(c))", "f(a;b,c)"}, {"f(fn(x)(a;b))", "f(fn(x)(a;b))"}, {"f(fn(x)(if a then b else c))", "f(fn(x)if a then b else c)"}, {"f(fn(x,y)(a or b))", "f(fn(x,y)a or b)"}, {"f({get(a);put x.(b;c)})", "f({get a;put x.(b;c)})"}, {"f({get(a;b);put x.(y:=c)})", "f({get(a;b);put x.y:=c})"}, {"f((x:=a))", "f(x:=a)"},
		{"if(a;b)then c else(d:=e)", "if(a;b)then c else d:=e"}, {"(if a then b else c)+1", "(if a then b else c)+1"}, {"1+(if a then b else c)", "1+(if a then b else c)"}, {"not(if a then b else c)", "not(if a then b else c)"}, {"if(if a then b else c)then d else e", "if if a then b else c then d else e"}, {"while(a)do(b)", "while a do b"}, {"(while a do b);c", "while a do b;c"}, {"while a do(b;c)", "while a do(b;c)"},
		{"new x:1:=0 in(a;b)", "new x:1:=0 in(a;b)"}, {"(new x:1:=0 in a);b", "new x:1:=0 in a;b"}, {"(new x:1:=0 in a)=b", "(new x:1:=0 in a)=b"}, {"label l in(a)else(b)", "label l in a else b"}, {"label l in(a;b)else(c;d)", "label l in(a;b)else(c;d)"}, {"notice c:=2 in(a;b)", "notice c:=2 in(a;b)"}, {"(notice c:=2 in a)+b", "(notice c:=2 in a)+b"}, {"choose(choose a else b)else c", "choose choose a else b else c"}, {"(choose a else b)or c", "(choose a else b)or c"}, {"x:=(y:=a)", "x:=y:=a"}, {"(x:=a)+b", "(x:=a)+b"}, {"x:=(a or b)", "x:=a or b"}, {"x:=(a;b)", "x:=(a;b)"}, {"not(x:=a)", "not(x:=a)"},
		{"a;(b;c)", "a;(b;c)"}, {"(a;b);c", "(a;b);c"}, {"((a);(b);(c))", "a;b;c"}, {"(a;b)+c", "(a;b)+c"},
		{"!x+jump l", "!x+jump l"}, {"(true)", "true"}, {"false", "false"}, {"skip", "skip"}, {"hang", "hang"}, {"1000000", "1000000"}, {"0", "0"},
	} {
		u := parsed(t, "def f():com="+x.s+";")
		s, e := parse.Text(u, 3)
		if s != x.want || e != api.OK {
			t.Errorf("%s: Text: %q, %v", x.s, s, e)
		}
		if s := printed(t, u); s != "def f():com="+x.want+";\n" {
			t.Errorf("%s: Print: %q", x.s, s)
		}
	}
}

// P2.4: the texts of all nodes that are no terms, and of numbers without such nodes.
func TestTextOfOthers(t *testing.T) {
	u := parsed(t, "import k : ( int 1 , cell 2 ) -> int 7; export f ( a : int 2 , b : cell 9 ) : com = a ; def g(k:(int 0)->cell 1):int 3=k(fn(x,y)1,{get 2;put z.3});")
	for n, want := range []string{
		"import k:(com,cell 2)->int 7;\nexport f(a:bool,b:cell 9):com=a;\ndef g(k:(int 0)->cell 1):int 3=k(fn(x,y)1,{get 2;put z.3});\n",
		"import k:(com,cell 2)->int 7;", "(com,cell 2)->int 7", "com", "cell 2", "int 7",
		"export f(a:bool,b:cell 9):com=a;", "a:bool", "bool", "b:cell 9", "cell 9", "com", "a",
		"def g(k:(int 0)->cell 1):int 3=k(fn(x,y)1,{get 2;put z.3});", "k:(int 0)->cell 1", "(int 0)->cell 1", "int 0", "cell 1", "int 3", "k(fn(x,y)1,{get 2;put z.3})", "fn(x,y)1", "x", "y", "1", "{get 2;put z.3}", "2", "z", "3",
	} {
		if s, e := parse.Text(u, n); s != want || e != api.OK {
			t.Errorf("%d: %q, %v", n, s, e)
		}
	}
	for _, n := range []int{-1, len(u.Nodes), 1 << 62, -1 << 63} {
		if s, e := parse.Text(u, n); s != "" || e != api.ErrRange {
			t.Errorf("%d: %q, %v", n, s, e)
		}
	}
	if s, e := parse.Text(program(), 0); s != "" || e != api.OK {
		t.Errorf("no items: %q, %v", s, e)
	}
}

// P2.4: a cell of a size that has a word as an integer, and kinds that are like others.
func TestPrintBases(t *testing.T) {
	for _, x := range []struct {
		x    api.TreeNode
		want string
	}{{api.TreeNode{Kind: api.IntType}, "int 0"}, {api.TreeNode{Kind: api.IntType, N: 1}, "com"}, {api.TreeNode{Kind: api.IntType, N: 2}, "bool"}, {api.TreeNode{Kind: api.IntType, N: 3}, "int 3"}, {api.TreeNode{Kind: api.CellType}, "cell 0"}, {api.TreeNode{Kind: api.CellType, N: 1}, "cell 1"}, {api.TreeNode{Kind: api.CellType, N: 2}, "cell 2"}} {
		if s := printed(t, program(node(api.TreeNode{Kind: api.ImportItem, Text: "a"}, node(x.x)))); s != "import a:"+x.want+";\n" {
			t.Errorf("%v: %q", x.x, s)
		}
	}
}

// P2.4: the limits of texts, each reached and passed.
func TestPrintLimits(t *testing.T) {
	seq := func(l ...[]api.TreeNode) []api.TreeNode { return node(api.TreeNode{Kind: api.SeqNode}, l...) }
	names := func(n, rest int) []api.TreeNode {
		l := slices.Repeat([][]api.TreeNode{named(api.NameNode, "abcdefghijkl")}, n)
		return seq(append(l, named(api.NameNode, strings.Repeat("z", rest)))...)
	}
	skips := func(n int) []api.TreeNode { return seq(slices.Repeat([][]api.TreeNode{number(1)}, n)...) }
	for i, x := range []struct {
		u                   api.Tree
		print, item, inside api.Errno
	}{
		// `def f():com=` has 12 bytes, each long name with its ; 13, then there are a short one and the last ;.
		{program(def(names(191, 3))), api.OK, api.OK, api.OK},
		{program(def(names(191, 4))), api.ErrLimit, api.OK, api.OK},
		{program(def(names(191, 5))), api.ErrLimit, api.ErrLimit, api.OK},
		{program(def(names(192, 4))), api.ErrLimit, api.ErrLimit, api.OK},
		{program(def(names(192, 5))), api.ErrLimit, api.ErrLimit, api.ErrLimit},
		// `def f():com=` has 7 tokens, the terms and the ; between them and behind them 2 each.
		{program(def(skips(446))), api.OK, api.OK, api.OK},
		{program(def(skips(447))), api.ErrLimit, api.ErrLimit, api.OK},
		{program(def(skips(450))), api.ErrLimit, api.ErrLimit, api.OK},
		{program(def(skips(451))), api.ErrLimit, api.ErrLimit, api.ErrLimit},
		{program(def(skips(896))), api.ErrLimit, api.ErrLimit, api.ErrLimit},
		// Two items have more than 900 tokens, but none of them has.
		{program(def(skips(440)), def(skips(440))), api.OK, api.OK, api.OK},
		{program(def(skips(10)), def(skips(447))), api.ErrLimit, api.OK, api.OK},
		{program(def(skips(447)), def(skips(10))), api.ErrLimit, api.ErrLimit, api.OK},
	} {
		s, e1 := parse.Print(x.u)
		_, e2 := parse.Text(x.u, 1)
		_, e3 := parse.Text(x.u, 3)
		if e1 != x.print || e2 != x.item || e3 != x.inside {
			t.Errorf("%d: %v, %v, %v", i, e1, e2, e3)
		}
		if i == 0 && len(s) != 2500 || e1 != api.OK && s != "" {
			t.Errorf("%d: %d bytes, %v", i, len(s), e1)
		}
	}
	u := program(def(skips(440)), def(skips(440)))
	if _, at, e := parse.Parse(printed(t, u)); e != api.ErrLimit || at == 0 {
		t.Errorf("Parse of more than 900 tokens: %d, %v", at, e)
	}
}

// P2.8: Parse of what Print returns is the tree; P2.13: it is the texts of the items.
func TestPrintAndBack(t *testing.T) {
	r := source(6)
	for range 4000 {
		x := anyTree(r)
		s, e := parse.Print(x)
		if e != api.OK {
			continue
		}
		u, _, e := parse.Parse(s)
		if e == api.ErrLimit {
			continue
		}
		if e != api.OK || !same(u, x) {
			t.Fatalf("%v: %q, %v", x, s, e)
		}
		kids, _ := parse.Kids(x, 0)
		lines := ""
		for _, n := range kids {
			line, _ := parse.Text(x, n)
			lines += line + "\n"
		}
		if lines != s || strings.Count(s, "\n") != len(kids) {
			t.Fatalf("%q is not %q", s, lines)
		}
	}
}

// P2.8: what Print returns of a tree that was parsed is not longer than the text, but for line feeds.
func TestPrintIsShort(t *testing.T) {
	r, g := source(7), newGrammar()
	for range 2000 {
		s := g.sayText(r, 3)
		l, ok := tokensOf(s)
		if !ok {
			continue
		}
		tight, _ := lex.Tight(l)
		text := printed(t, parsed(t, tight))
		if n := len(strings.ReplaceAll(text, "\n", "")); n > len(tight) {
			t.Fatalf("%q: %q", tight, text)
		}
		if again := printed(t, parsed(t, text)); again != text {
			t.Fatalf("%q: %q", text, again)
		}
	}
}

// P2.9: no pair of brackets of a printed text can be left out.
func TestBracketsAreNeeded(t *testing.T) {
	r := source(8)
	pairs := 0
	for range 1500 {
		x := anyTree(r)
		s, e := parse.Print(x)
		l, ok := tokensOf(s)
		if e != api.OK || !ok {
			continue
		}
		mates, _, e := lex.Pairs(l)
		if e != api.OK {
			t.Fatalf("Pairs of %q: %v", s, e)
		}
		for n, m := range mates {
			if m < n {
				continue
			}
			pairs++
			b := []byte(s)
			b[l[n].At], b[l[m].At] = ' ', ' '
			if u, _, e := parse.Parse(string(b)); e == api.OK && same(u, x) {
				t.Fatalf("%q: the brackets at %d are not needed", s, l[n].At)
			}
		}
	}
	if pairs < 3000 {
		t.Errorf("only %d pairs", pairs)
	}
}

// P2.4: from the text of any node the grammar makes this node, and it is tight.
func TestTextOfAnyNode(t *testing.T) {
	r := source(9)
	around := map[byte][2]string{'i': {"", ""}, 'p': {"def f(", "):com=1;"}, 'y': {"import a:", ";"}, 'b': {"import a:", ";"}, 't': {"def f():com=", ";"}, 'f': {"def f():com=f(", ");"}, 'o': {"def f():com=f(", ");"}, 'n': {"def f():com=f(fn(", ")1);"}}
	at := map[byte]int{'i': 1, 'p': 2, 'y': 2, 'b': 2, 't': 3, 'f': 4, 'o': 4, 'n': 5}
	for range 600 {
		x := anyTree(r)
		for n := 1; n < len(x.Nodes); n++ {
			letter := table[x.Nodes[n].Kind].letter[0]
			s, e := parse.Text(x, n)
			l, ok := tokensOf(s)
			if tight, _ := lex.Tight(l); e != api.OK || !ok || tight != s {
				t.Fatalf("%v: %q, %v", x.Nodes[n], s, e)
			}
			u := parsed(t, around[letter][0]+s+around[letter][1])
			got, _ := parse.Sub(u, at[letter])
			want, _ := parse.Sub(x, n)
			if !slices.Equal(bare(got), bare(want)) {
				t.Fatalf("%q: %v, not %v", s, got, want)
			}
		}
	}
}
