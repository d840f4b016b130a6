package parse_test

import (
	"math/rand"
	"slices"
	"strings"
	"testing"

	"riposte/api"
	"riposte/lex"
	"riposte/parse"
)

// itemNames returns the names of a tree's items.
func itemNames(x api.Tree) []string {
	var l []string
	for _, n := range x.Nodes {
		if n.Kind >= api.ImportItem && n.Kind <= api.ExportItem {
			l = append(l, n.Text)
		}
	}
	return l
}

// P2.2: which items are read, where the faults are, and the errors.
func TestRecover(t *testing.T) {
	for _, x := range []struct {
		s      string
		names  []string
		faults []int
		e      api.Errno
	}{
		{"", nil, nil, api.OK},
		{" ~ def\n", nil, nil, api.OK},
		{"def f(; def g():com=a;", []string{"g"}, []int{6}, api.OK},
		{"import a:com; export b():com=1; def c():com=2;", []string{"a", "b", "c"}, nil, api.OK},
		{"x y import a:com; z", []string{"a"}, []int{0, 18}, api.OK},
		{"; import a:com;", []string{"a"}, []int{0}, api.OK},
		{"import a:com;; import b:com;", []string{"a", "b"}, []int{13}, api.OK},
		{"x y def f():com=a; z", nil, []int{0, 20}, api.OK},
		{"x y def f():com=a; import z", []string{"f"}, []int{0, 27}, api.OK},
		{"def f():com=a def g():com=b;", []string{"g"}, []int{14}, api.OK},
		{"import a:com; import b:; import c:com; def", []string{"a", "c"}, []int{23, 42}, api.OK},
		{"def f():com=a; b", nil, []int{16}, api.OK},
		{"def f():com=a; b  ~c", nil, []int{20}, api.OK},
		{"def def def f():com=a;", []string{"f"}, []int{4, 8}, api.OK},
		{"import import", nil, []int{7, 13}, api.OK},
		{"def f():com=(a;import g:com;", []string{"g"}, []int{14}, api.OK},
		{"def f():com=(a;b);c) export g():com=1;", []string{"g"}, []int{19}, api.OK},
		{"def f():com=f({get a;def g():com=1;", []string{"g"}, []int{21}, api.OK},
		{"def f(x:com,:com=1; x y z; ) import a:com; ~ def\nimport b:com;", []string{"a", "b"}, []int{12}, api.OK},
		{") ( if then", nil, []int{0}, api.OK},
		{"export", nil, []int{6}, api.OK},
		{"def f():com=" + strings.Repeat("not ", 59) + "a", nil, []int{249}, api.OK},
		{"def f():com=" + strings.Repeat("not ", 59) + "a; def g() import b:com;", nil, nil, api.ErrLimit},
		{strings.Repeat("import a:com;", 25) + "x", nil, nil, api.ErrLimit},
		{strings.Repeat("import a:com;", 24) + "x", slices.Repeat([]string{"a"}, 24), []int{312}, api.OK},
		{"# def", nil, nil, api.ErrForm},
		{"x 1000001 def", nil, nil, api.ErrRange},
		{"x\t", nil, nil, api.ErrArg},
		{strings.Repeat(" ", 2501), nil, nil, api.ErrLimit},
		{strings.Repeat(";", 901), nil, nil, api.ErrLimit},
	} {
		u, l, e := parse.Recover(x.s)
		var at []int
		for _, f := range l {
			if at = append(at, f.At); f.E != api.ErrForm {
				t.Errorf("%.60q: a fault %v", x.s, f)
			}
		}
		if e != x.e || !slices.Equal(itemNames(u), x.names) || !slices.Equal(at, x.faults) {
			t.Errorf("%.60q: %v, %v, %v", x.s, itemNames(u), l, e)
		}
		if e != api.OK && len(u.Nodes) > 0 || e == api.OK && parse.Check(u) != api.OK {
			t.Errorf("%.60q: %v, %v", x.s, u, e)
		}
	}
}

// P2.2: nodes have the places of the text as a whole.
func TestRecoverPlaces(t *testing.T) {
	u, _, e := parse.Recover("def x import a:bool;")
	want := []api.TreeNode{{Kind: api.ProgramNode, Size: 3}, {Kind: api.ImportItem, Text: "a", At: 6, Size: 2}, {Kind: api.IntType, N: 2, At: 15, Size: 1}}
	if e != api.OK || !slices.Equal(u.Nodes, want) {
		t.Errorf("%v, %v", u, e)
	}
}

// inTurn recovers as the chapter says it: an item is what Parse reads from a keyword on.
func inTurn(g grammar, l []api.Token, end int) (items []string, faults []int) {
	for len(l) > 0 {
		n, read := 1, false
		for ; n <= len(l) && !read; n++ {
			read = g.follow(l[:n]) < 0 && slices.Contains([]string{"import", "def", "export"}, l[0].Text)
			// The ; is the item's own just if the text may end, or go on with an item, behind it.
			if read && l[0].Text != "import" && n < len(l) {
				read = slices.Contains([]string{"import", "def", "export"}, l[n].Text)
			}
		}
		if read {
			items = append(items, l[1].Text)
			l = l[n-1:]
			continue
		}
		bad := g.follow(l)
		at := end
		if bad < len(l) {
			at = l[bad].At
		}
		faults = append(faults, at)
		bad = max(bad, 1)
		for bad < len(l) && !slices.Contains([]string{"import", "def", "export"}, l[bad].Text) {
			bad++
		}
		l = l[bad:]
	}
	return items, faults
}

// P2.2: Recover of texts that are spoilt, and P2.12: no fault just if Parse has no error.
func TestRecoverByTheGrammar(t *testing.T) {
	r, g := source(3), newGrammar()
	with, without := 0, 0
	for i := range 500 {
		s := g.sayText(r, 3)
		for range i % 4 {
			s = spoilt(r, s)
		}
		l, ok := tokensOf(s)
		if !ok || len(l) > 50 {
			continue
		}
		u, faults, e := parse.Recover(s)
		items, places := inTurn(g, l, len(s))
		var at []int
		for _, f := range faults {
			at = append(at, f.At)
		}
		if e != api.OK || !slices.Equal(itemNames(u), items) || !slices.Equal(at, places) {
			t.Fatalf("%q: %v, %v, %v, not %v, %v", s, itemNames(u), faults, e, items, places)
		}
		p, n, e := parse.Parse(s)
		if len(faults) == 0 {
			if without++; e != api.OK || !slices.Equal(p.Nodes, u.Nodes) {
				t.Fatalf("%q: %v, %v", s, p, e)
			}
		} else if with++; e != api.ErrForm || n != at[0] {
			t.Fatalf("%q: %d, %v, not %d", s, n, e, at[0])
		}
	}
	if with < 80 || without < 80 {
		t.Errorf("%d texts with faults, %d without", with, without)
	}
}

// P2.12: Recover and Parse have an ErrLimit of the same trees.
func TestRecoverLimits(t *testing.T) {
	for _, s := range []string{strings.Repeat("import a:com;", 25), "def f():com=" + strings.Repeat("not ", 59) + "a;"} {
		_, l, e := parse.Recover(s)
		if _, _, f := parse.Parse(s); e != api.ErrLimit || f != api.ErrLimit || len(l) > 0 {
			t.Errorf("%.60q: %v, %v, %v", s, l, e, f)
		}
	}
}

// junk returns a text of an item: a keyword of one, and anything but such keywords.
func junk(r *rand.Rand) string {
	words := strings.Fields("x y 0 1 f g ( ) { } , ; ; : := -> = + - * ! . if then else while do new in label notice choose or and not as int com bool cell true skip jump hang fn get put of")
	l := []string{pick(r, "import", "def", "export", "import a :", "def f ( )", "def f ( ) : com =", "export f ( x : bool ) : com = a ;")}
	for range r.Intn(9) {
		l = append(l, pick(r, words...))
	}
	return strings.Join(l, " ")
}

// P2.12: an item in between costs none of those in front of it and behind it.
func TestRecoverAround(t *testing.T) {
	r, g := source(4), newGrammar()
	for range 2000 {
		front, between, behind := g.sayText(r, 2), junk(r), g.sayText(r, 2)
		s := front + "\n" + between + "\n" + behind
		if l, _, e := lex.Tokens(s); e != api.OK || len(l) > 900 {
			continue
		}
		u, faults, e := parse.Recover(s)
		x, y := parsed(t, front), parsed(t, behind)
		got, a, b := bare(u.Nodes[1:]), bare(x.Nodes[1:]), bare(y.Nodes[1:])
		if e != api.OK || len(got) < len(a)+len(b) || !slices.Equal(got[:len(a)], a) || !slices.Equal(got[len(got)-len(b):], b) {
			t.Fatalf("%q, %q, %q: %v, %v, %v", front, between, behind, u, faults, e)
		}
	}
}
