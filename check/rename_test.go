package check_test

import (
	"slices"
	"strings"
	"testing"

	"riposte/api"
	"riposte/check"
	"riposte/parse"
)

// P3.7: Rename of the declaration with $ to a name; with ^ the nodes that mean it are marked.
func TestRename(t *testing.T) {
	for _, s := range []string{
		"$import a:com;def f():com=^a;export g(x:com):com=^a;x;", "$def a():com=skip;def f():com=^a;", "$export a():com=skip;", "$def a(x:com):com=x;export f():com=^a(^a(skip));", "def f($a:cell 2):com=^a:=^!a;export g(a:com):com=a;", "export f(b:com,$a:com):com=b;^a;", "def f():com=$new a:2:=0 in ^notice a:=1 in ^a:=^!a;def g(a:com):com=a;",
		"def f():com=$label a in ^jump a else skip;", "def g(k:(com)->com):com=skip;def f():com=g(fn($a)^a);", "def g(k:(com,com)->com):com=skip;def f():com=g(fn(b,$a)(^a;b));", "import g:(cell 2)->com;def f():com=g({get 0;put $a.if ^a then skip else skip});", "def g(k:(com)->com):com=k(skip);$import a:(com)->com;def f():com=g(^a);", "import g:(cell 2)->com;export f($a:cell 2):com=g(^a);",
	} {
		for _, name := range []string{"z", "aB9", "abcdefghijkl", "zif", "a"} {
			x, hats, dollars := marked(t, s)
			got, e := check.Rename(x, dollars[0], name)
			want := slices.Clone(x.Nodes)
			for _, n := range append(hats, dollars[0]) {
				want[n].Text = name
			}
			if !slices.Equal(got.Nodes, want) || e != api.OK {
				t.Errorf("Rename to %s in %q: %v, %v", name, s, got, e)
			}
		}
	}
}

// P3.7: the errors of Rename, in their order.
func TestRenameErrors(t *testing.T) {
	const s = "import i:bool;def d(x:cell 3):com=x:=!x+1;export m(k:(int 3)->com):com=new c:3:=0 in(while i do d(c);label l in k(!c)else skip);"
	noNames := []string{"", "A", "1", "in", "while", "_", "x ", " x", "x;", "x~", "abcdefghijklm", "é", "x\x00", "xé", strings.Repeat("x", 5000), "import", "+"}
	for _, x := range []struct {
		s, name string
		e       api.Errno
	}{
		// no declaration, then no name, then the errors of what comes of it
		{text(s, "!x+", "!x$+"), "z", api.ErrNone}, {text(s, "while", "$while"), "in", api.ErrNone}, {text(s, "d(c)", "$d(c)"), "z", api.ErrNone}, {text(s, "cell", "$cell"), "", api.ErrNone}, {text(s, "label", "$label"), "z", api.OK},
		{text(s, "new", "$new"), "k", api.ErrTwice}, {text(s, "new", "$new"), "l", api.ErrTwice}, {text(s, "new", "$new"), "m", api.ErrTwice}, {text(s, "new", "$new"), "i", api.ErrTwice}, {text(s, "new", "$new"), "d", api.ErrTwice}, {text(s, "new", "$new"), "x", api.OK}, {text(s, "new", "$new"), "c", api.OK},
		{text(s, "import", "$import"), "c", api.ErrTwice}, {text(s, "import", "$import"), "x", api.ErrTwice}, {text(s, "import", "$import"), "m", api.ErrTwice}, {text(s, "import", "$import"), "l", api.ErrTwice}, {text(s, "export", "$export"), "x", api.ErrTwice}, {text(s, "export", "$export"), "d", api.ErrTwice}, {text(s, "(x:", "($x:"), "m", api.ErrTwice}, {text(s, "(x:", "($x:"), "d", api.ErrTwice}, {text(s, "(x:", "($x:"), "k", api.OK},
		// those of Program come first
		{"$export m():com=1;", "z", api.ErrType}, {"$export m():com=1;", "in", api.ErrType}, {"export m():$com=x;", "in", api.ErrName}, {"$import a:int 65;", "z", api.ErrRange}, {"$import a:com;import a:com;", "z", api.ErrTwice}, {"import a:com;$import a:com;", "in", api.ErrTwice}, {"$import a:com;export m():com=b;", "b", api.ErrName},
	} {
		u, _, at := marked(t, x.s)
		if got, e := check.Rename(u, at[0], x.name); e != x.e || e != api.OK && len(got.Nodes) > 0 {
			t.Errorf("Rename to %s in %q: %v, %v, not %v", x.name, x.s, got, e, x.e)
		}
	}
	x, _, at := marked(t, text(s, "new", "$new"))
	for _, name := range noNames {
		if got, e := check.Rename(x, at[0], name); e != api.ErrArg || len(got.Nodes) > 0 {
			t.Errorf("Rename to %.20q: %v, %v", name, got, e)
		}
		if got, e := check.Rename(x, at[0]+1, name); e != api.ErrNone || len(got.Nodes) > 0 {
			t.Errorf("Rename of no declaration to %.20q: %v, %v", name, got, e)
		}
	}
	for _, n := range []int{-1, len(x.Nodes), 1 << 62, -1 << 63} {
		if got, e := check.Rename(x, n, "z"); e != api.ErrRange || len(got.Nodes) > 0 {
			t.Errorf("Rename of %d: %v, %v", n, got, e)
		}
	}
}

// faces returns the arenas of all exports, with the names of what is asked.
func faces(x api.Tree) (arenas []api.Arena, names []string, errors []api.Errno) {
	for _, n := range items(x) {
		if x.Nodes[n].Kind != api.ExportItem {
			continue
		}
		a, l, e := check.Arena(x, x.Nodes[n].Text, true)
		arenas, errors = append(arenas, a), append(errors, e)
		for _, y := range l {
			names = append(names, y.Name)
		}
	}
	return arenas, names, errors
}

// P3.7 and P3.11: random programs in which a declaration has another name, and its own one again.
func TestRenamed(t *testing.T) {
	r := source(10)
	renamed := 0
	for range 500 {
		x := rightProgram(r)
		if len(x.Nodes) == 1 {
			continue
		}
		m := model{x.Nodes}
		d := some(r, x.Nodes, func(y api.TreeNode) bool { return y.Text != "" })
		if !m.declares(d) {
			d = m.means(d)
		}
		// Names of other items' declarations can be taken, too.
		name := pick(r, "other", "v1", "v2", "v9", "i1", x.Nodes[d].Text)
		y, e := check.Rename(x, d, name)
		want := slices.Clone(x.Nodes)
		for n := range want {
			if n == d || m.mentions(n) && m.means(n) == d {
				want[n].Text = name
			}
		}
		if k, f := check.Program(api.Tree{Nodes: want}); e != f || e != api.OK && (k == 0 || len(y.Nodes) > 0) {
			t.Fatalf("Rename of %d to %s: %v, %v, not %v", d, name, y, e, f)
		}
		if e != api.OK {
			continue
		}
		renamed++
		if !slices.Equal(y.Nodes, want) {
			t.Fatalf("Rename of %d to %s: %v", d, name, y)
		}
		if back, e := check.Rename(y, d, x.Nodes[d].Text); !slices.Equal(back.Nodes, x.Nodes) || e != api.OK {
			t.Fatalf("Rename of %d to %s and back: %v, %v", d, name, back, e)
		}
		staysTheSame(t, x, y)
	}
	if renamed < 200 {
		t.Errorf("only %d programs were renamed", renamed)
	}
}

// staysTheSame tests that two programs differ in names alone.
func staysTheSame(t *testing.T, x, y api.Tree) {
	t.Helper()
	if _, e := check.Program(y); e != api.OK {
		t.Fatalf("Program: %v", e)
	}
	if !slices.Equal(means(x), means(y)) || !slices.Equal(sizes(x), sizes(y)) {
		t.Fatalf("%v, %v; %v, %v", means(x), sizes(x), means(y), sizes(y))
	}
	for n := range x.Nodes {
		a, e := check.Type(x, n)
		b, f := check.Type(y, n)
		k, _ := check.Effects(x, n)
		l, _ := check.Effects(y, n)
		if !sameType(a, b) || e != f || k != l {
			t.Fatalf("%d: %v, %v, %d; %v, %v, %d", n, a, e, k, b, f, l)
		}
	}
	a, names, e := faces(x)
	b, names2, f := faces(y)
	if !slices.EqualFunc(a, b, sameArena) || len(names) != len(names2) || !slices.Equal(e, f) {
		t.Fatalf("%v, %v", a, b)
	}
}

// P3.7: the text of a renamed program.
func TestRenamedText(t *testing.T) {
	x, _, at := marked(t, text(theProgram, "new", "$new"))
	y, e := check.Rename(x, at[0], "cup")
	s, f := parse.Print(y)
	const want = "import i:bool;\ndef d(x:cell 3):com=x:=!x+1;\nexport m(k:(int 3)->com):com=new cup:3:=0 in(while i do d(cup);k(!cup));\n"
	if s != want || e != api.OK || f != api.OK {
		t.Errorf("%q, %v, %v", s, e, f)
	}
}
