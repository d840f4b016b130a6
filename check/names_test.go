package check_test

import (
	"slices"
	"testing"

	"riposte/api"
	"riposte/check"
	"riposte/parse"
)

// theProgram is that of the chapter's examples.
const theProgram = "import i:bool; def d(x:cell 3):com=x:=!x+1; export m(k:(int 3)->com):com=new c:3:=0 in(while i do d(c);k(!c));"

// P3.2 and P3.3: what a node means. With $ the declaration is marked, with ^ all nodes that mean it.
func TestMeans(t *testing.T) {
	for _, s := range []string{
		"$import a:com;def f():com=^a;^a;export g():com=^a(skip);^!a;^a:=0;^notice a:=0 in skip;", "$def a():com=skip;def f():com=^a;", "def a():com=skip;$import b:com;def f():com=a;^b;a;", "$import a:com;", "$export a():com=a;", "export f():com=a;$export a():com=a;def g():com=a;", "$def f():com=f;export f():com=^f;",
		"def f($a:com):com=^a;^a(skip);^!a;^a:=0;^notice a:=0 in skip;def g():com=a;", "def f($a:com,b:com):com=^a;b;", "def f(a:com,$b:(com)->com):com=a;^b(a);", "export f($a:com):com=^a;",
		"def f():com=a;($new a:2:=0 in(^a;^!a;^a:=1;^a(0);^notice a:=0 in ^a));a;", "def f():com=$label a in(^jump a;a;!a;a:=0;a(0);notice a:=0 in skip)else jump a;",
		"def g(k:(com)->com):com=skip;def f():com=g(fn($x)(^x;^x(0);^x:=^!x))+x;", "def g(k:(com)->com):com=skip;def f():com=g(fn(y,$x)(y;^x))+y;", "def g(k:(com)->com):com=skip;def f():com=g(fn($y,x)(^y;x))+y;", "def g(c:cell 2):com=skip;def f():com=g({get v;put $v.(^v;^v;^v(0))},v)+v;", "def f():com=f(fn($x)f(fn(y)^x,^x),x);",
		// of several the nearest one counts
		"import a:com;$import a:com;def f():com=^a;^a;", "$import a:com;def f():com=^a;def a():com=skip;", "import a:com;def f($a:com):com=^a;", "def f(a:com,$a:com):com=^a;", "def f($a:com):com=^a;(new a:2:=0 in a);^a;", "def f(a:com):com=a;($new a:2:=0 in ^a);a;", "def f():com=$new a:2:=0 in(^a;(new a:2:=0 in a);^a);", "def f():com=$label a in(^jump a;(label a in jump a else ^jump a))else jump a;", "def f():com=label a in(jump a;($label a in ^jump a else jump a))else jump a;", "def f(x:com):com=f(fn($x)(^x;f(fn(x)x);^x),x);", "def f(x:com):com=f({get x;put $x.^x},x);", "def f():com=f(fn(x,$x)^x);",
		// labels and others with one name
		"$import a:com;def f():com=^a;(label a in(^a;jump a)else ^a);jump a;", "import a:com;def f():com=$label a in(a;^jump a)else a;", "def f():com=$label a in(new a:2:=0 in(a;^jump a))else a;", "def f():com=$new a:2:=0 in(label a in(^a;jump a)else ^a);", "def f(a:com):com=$label a in f(fn(a)^jump a,a)else a;",
	} {
		x, hats, dollars := marked(t, s)
		d := dollars[0]
		for _, n := range hats {
			if k, e := check.Means(x, n); k != d || e != api.OK {
				t.Errorf("Means of %d in %q: %d, %v, not %d", n, s, k, e, d)
			}
		}
		if l, e := check.Uses(x, d); !slices.Equal(l, hats) || e != api.OK {
			t.Errorf("Uses of %d in %q: %v, %v, not %v", d, s, l, e, hats)
		}
	}
}

// P3.2 and P3.3: nodes that mean nothing, and such that cannot.
func TestMeansErrors(t *testing.T) {
	for _, s := range []string{
		"def f():com=^f;", "def f():com=^a;import a:com;", "export a():com=skip;def f():com=^a;", "def f(a:com):com=skip;def g():com=^a;", "def f():com=(new a:1:=0 in skip);^a;^!a;^a:=0;^a(0);^notice a:=0 in skip;", "def f():com=label a in ^a else ^jump a;", "def f():com=new a:1:=0 in ^jump a;", "import a:com;def f(b:com):com=^jump a;^jump b;^jump f;", "def f():com=g(fn(x)skip,^x);", "def f():com=g({get ^x;put x.skip},^x);", "def f():com=label l in(label m in ^jump n else jump l)else ^jump m;",
	} {
		x, hats, _ := marked(t, s)
		for _, n := range hats {
			if k, e := check.Means(x, n); k != 0 || e != api.ErrName {
				t.Errorf("Means of %d in %q: %d, %v", n, s, k, e)
			}
		}
	}
	x := parsed(t, "import a:(cell 2)->com;def f(b:com):com=a({get(1 as 2)+1;put v.new c:3:=0 in notice c:=1 in c:=0});export g(k:(com)->com):com=label l in(jump l;f(k(skip));g(fn(x)!x))else hang;")
	var mention = []uint8{api.NameNode, api.CallNode, api.GetNode, api.PutNode, api.NoticeNode, api.JumpNode}
	var declare = []uint8{api.ImportItem, api.DefItem, api.ExportItem, api.ParamNode, api.NewNode, api.LabelNode, api.BindNode}
	for n, y := range x.Nodes {
		if k, e := check.Means(x, n); !slices.Contains(mention, y.Kind) && (k != 0 || e != api.ErrNone) || slices.Contains(mention, y.Kind) && e == api.ErrNone {
			t.Errorf("Means of %d: %d, %v", n, k, e)
		}
		if l, e := check.Uses(x, n); !slices.Contains(declare, y.Kind) && (len(l) > 0 || e != api.ErrNone) || slices.Contains(declare, y.Kind) && e != api.OK {
			t.Errorf("Uses of %d: %v, %v", n, l, e)
		}
	}
	for _, n := range []int{-1, len(x.Nodes), 1 << 62, -1 << 63} {
		_, a := check.Means(x, n)
		_, b := check.Uses(x, n)
		_, c := check.Sight(x, n)
		if a != api.ErrRange || b != api.ErrRange || c != api.ErrRange {
			t.Errorf("%d: %v, %v, %v", n, a, b, c)
		}
	}
}

// P3.2: Sight. At the nodes with ^ just the declarations with $ are in sight.
func TestSight(t *testing.T) {
	for _, s := range []string{
		"^import a:^com;", "$import a:com;^import b:(^com)->^com;", "$import a:com;^def f(^b:^com):^com=skip;", "$import a:com;$def f():com=skip;export g():com=skip;^export h(^b:^com):^com=skip;import z:com;", "export a():com=skip;^def b():^com=^skip;", "$import a:com;$import a:com;^def a():com=^skip;",
		"$import z:com;def f($a:com,$b:cell 2):com=^skip^;^!a;export y(b:com):com=skip;", "export f($a:com,$b:com):com=^a;", "$def f(a:com):com=skip;def g($a:com):com=^skip;",
		"def f():com=^skip^;^new a:2:=0 in !a;", "def f():com=$new a:2:=0 in(^!a^;^skip);", "def f():com=$new a:2:=0 in $new a:2:=0 in(^!a^;^skip);", "def f():com=$new a:2:=0 in ^new b:2:=0 in skip;",
		"def f():com=^label a in skip else ^skip;", "def f():com=$label a in(^skip^;^jump a)else skip;", "def f():com=$label a in ^label b in skip else ^skip else skip;", "def f():com=label a in skip else $label b in ^skip else skip;",
		"def f($p:com):com=^f(^fn(^x)skip,^skip);", "def f():com=f(fn($x)^skip);", "def f():com=f(fn($x,$y)(^skip^;^x),skip);", "def f():com=f(fn($x)f(^fn(^y)skip,^x));", "def f():com=f(fn($x)f(fn($y)^skip));",
		"def f():com=^f(^{get ^skip;put ^x.skip},^skip);", "def f():com=f({get skip;put $x.^skip});", "def f():com=f({get f({get ^skip;put x.skip});put y.skip});", "def f():com=f({get skip;put $x.f({get ^x;put y.skip})});", "def f():com=f({get skip;put $x.f({get x;put $y.^skip})});",
		"$import a:com;$def b(x:com):com=x;$import c:com;def d($k:com):com=$label l in $new m:2:=0 in ^k(^fn(^n)skip,^skip)else hang;export e():com=skip;import g:com;",
	} {
		x, hats, dollars := marked(t, s)
		for _, n := range hats {
			if l, e := check.Sight(x, n); !slices.Equal(l, dollars) || e != api.OK {
				t.Errorf("Sight of %d in %q: %v, %v, not %v", n, s, l, e, dollars)
			}
		}
	}
	for _, s := range []string{"", theProgram} {
		if l, e := check.Sight(parsed(t, s), 0); len(l) > 0 || e != api.OK {
			t.Errorf("Sight of the program %q: %v, %v", s, l, e)
		}
	}
}

// P3.2 and P3.3: the examples of the chapter.
func TestNamesOfTheExamples(t *testing.T) {
	x, hats, dollars := marked(t, "import i:bool; def d(x:cell 3):com=x:=!x+1; export m($k:(int 3)->com):com=$new c:3:=0 in(while i do d(^c);^k(!c));")
	a, e := check.Means(x, hats[0])
	b, f := check.Means(x, hats[1])
	if a != dollars[1] || e != api.OK || b != dollars[0] || f != api.OK {
		t.Errorf("%d, %v; %d, %v", a, e, b, f)
	}
}

// P3.2, P3.3 and P3.13: random programs, as the model says it.
func TestNamesOfRandomPrograms(t *testing.T) {
	r := source(5)
	unknown := 0
	for range 400 {
		x := anyProgram(r)
		m := model{x.Nodes}
		uses := make([][]int, len(x.Nodes))
		for n := range x.Nodes {
			l, e := check.Sight(x, n)
			if e != api.OK || !slices.Equal(l, m.sight(n)) {
				t.Fatalf("Sight of %d: %v, %v, not %v", n, l, e, m.sight(n))
			}
			// P3.13: what is in sight at a node is in sight at its kids.
			kids, _ := parse.Kids(x, n)
			for _, k := range kids {
				below, _ := check.Sight(x, k)
				for _, d := range l {
					if !slices.Contains(below, d) {
						t.Fatalf("%d is in sight at %d, not at %d", d, n, k)
					}
				}
			}
			if !m.mentions(n) {
				continue
			}
			d, e := check.Means(x, n)
			want := m.means(n)
			if want < 0 && (d != 0 || e != api.ErrName) || want >= 0 && (d != want || e != api.OK) {
				t.Fatalf("Means of %d: %d, %v, not %d", n, d, e, want)
			}
			if want < 0 {
				unknown++
				continue
			}
			uses[d] = append(uses[d], n)
			if !slices.Contains(l, d) {
				t.Fatalf("%d means %d, which is not in sight", n, d)
			}
		}
		for n := range x.Nodes {
			if l, e := check.Uses(x, n); m.declares(n) && (e != api.OK || !slices.Equal(l, uses[n])) {
				t.Fatalf("Uses of %d: %v, %v, not %v", n, l, e, uses[n])
			}
		}
	}
	if unknown < 20 {
		t.Errorf("only %d nodes mean nothing", unknown)
	}
}

// P3.8: a program has no error just if no item has one; then each name means something, and each node that means a declaration is used by just one.
func TestWhole(t *testing.T) {
	r := source(6)
	whole := 0
	for range 400 {
		x := anyProgram(r)
		good := true
		for _, n := range items(x) {
			_, e := check.Item(x, n)
			good = good && e == api.OK
		}
		n, e := check.Program(x)
		if (e == api.OK) != good || e == api.OK && n != 0 {
			t.Fatalf("Program: %d, %v", n, e)
		}
		if !good {
			continue
		}
		whole++
		users := make([]int, len(x.Nodes))
		for n := range x.Nodes {
			l, _ := check.Uses(x, n)
			for _, k := range l {
				users[k]++
			}
		}
		for n := range x.Nodes {
			_, e := check.Means(x, n)
			if (e != api.OK || users[n] != 1) && (e != api.ErrNone || users[n] != 0) {
				t.Fatalf("%d: %v, used by %d", n, e, users[n])
			}
		}
	}
	if whole < 100 {
		t.Errorf("only %d programs have no error", whole)
	}
}
