package core_test

import (
	"slices"
	"strings"
	"testing"

	"riposte/api"
	"riposte/check"
	"riposte/core"
	"riposte/parse"
)

// P7.5: the programs of terms of each kind.
func TestTrees(t *testing.T) {
	a := place(t, example)
	imports := "import x1:bool;\nimport x2:cell 3;\nimport x3:(int 3,cell 2)->com;\nexport main():com="
	for s, want := range map[string]string{
		"0/1":                              "0 as 1",
		"hang":                             "hang",
		"as/1(63/64)":                      "63 as 64 as 1",
		"seq(hang,seq(0/1,hang))":          "hang;(0 as 1;hang)",
		"seq(seq(hang,0/1),hang)":          "(hang;0 as 1);hang",
		"if(x1,hang,0/1)":                  "if x1 then hang else 0 as 1",
		"while(x1,=2(!2))":                 "while x1 do x2:=!x2",
		"choose(hang,0/1)":                 "choose hang else 0 as 1",
		"as/1(add/3(!2,2/3))":              "(!x2+2 as 3)as 1",
		"as/1(sub/3(!2,2/3))":              "(!x2-2 as 3)as 1",
		"as/1(mul/3(!2,2/3))":              "(!x2*2 as 3)as 1",
		"as/1(eq/3(!2,2/3))":               "(!x2=2 as 3)as 1",
		"as/1(less/3(!2,2/3))":             "(!x2<2 as 3)as 1",
		"x3(!2,obj(x1,=2(as/3(#4))))":      "x3(!x2,{get x1;put v1.x2:=v1 as 3})",
		"new/2/1(notice/4/0(x3(!2,&4)))":   "new c1:2:=1 in notice c1:=0 in x3(!x2,c1)",
		"label(label(jump/1,jump/0),hang)": "label l1 in label l2 in jump l1 else jump l1 else hang",
		// One count for all names, in the order of the text: that of a value comes behind those of its get.
		"seq(new/2/0(=4(1/2)),seq(label(jump/0,hang),new/3/1(=4(!2))))":                                               "new c1:2:=0 in c1:=1 as 2;(label l2 in jump l2 else hang;new c3:3:=1 in c3:=!x2)",
		"new/3/0(label(x3(new/3/1(!5),obj(new/2/0(!5),new/2/1(=6(#5)))),hang))":                                       "new c1:3:=0 in label l2 in x3(new c3:3:=1 in!c3,{get new c4:2:=0 in!c4;put v5.new c6:2:=1 in c6:=v5})else hang",
		"x3(!2,obj(x1,x3(!2,obj(#4,if(#5,if(#4,0/1,hang),hang)))))":                                                   "x3(!x2,{get x1;put v1.x3(!x2,{get v1;put v2.if v2 then if v1 then 0 as 1 else hang else hang})})",
		"x3(!2,obj(label(seq(jump/0,x1),x1),seq(label(label(seq(jump/0,jump/1),hang),hang),if(#4,0/1,new/1/0(!5)))))": "x3(!x2,{get label l1 in(jump l1;x1)else x1;put v2.(label l3 in label l4 in(jump l4;jump l3)else hang else hang;if v2 then 0 as 1 else new c5:1:=0 in!c5)})",
	} {
		x, e := core.Tree(a, term(t, a, s))
		if got := printed(x); e != api.OK || got != imports+want+";\n" {
			t.Errorf("Tree of %s: %v: %s", s, e, strings.TrimPrefix(got, imports))
		}
	}
}

// P7.5: imports of all types, and none.
func TestImports(t *testing.T) {
	for s, want := range map[string]string{
		"int 1":               "export main():com=0 as 1;\n",
		"int 64":              "export main():int 64=0 as 64;\n",
		"int 2; jumps":        "export main():bool=0 as 2;\n",
		"int 3; int 1; int 2": "import x1:com;\nimport x2:bool;\nexport main():int 3=0 as 3;\n",
		"int 1; cell 1; cell 2; (cell 1, int 1, int 2, int 3, cell 64) -> int 64; (int 1) -> int 1; int 64": "import x1:cell 1;\nimport x2:cell 2;\nimport x3:(cell 1,com,bool,int 3,cell 64)->int 64;\nimport x4:(com)->com;\nimport x5:int 64;\nexport main():com=0 as 1;\n",
	} {
		a := place(t, s)
		x, e := core.Tree(a, api.Term{Kind: api.TermNum, M: a.Root.N})
		if got := printed(x); e != api.OK || got != want {
			t.Errorf("Tree in %s: %v: %s", s, e, got)
		}
	}
}

// P7.5: the errors of Tree, in their order.
func TestErrorsOfTree(t *testing.T) {
	one, in := api.Arena{Root: integer(1)}, api.Arena{Root: cell(1)}
	hang := api.Term{Kind: api.TermHang}
	deep := func(n int) api.Term {
		x := hang
		for range n {
			x = api.Term{Kind: api.TermAs, N: 1, Kids: []api.Term{x}}
		}
		return x
	}
	object := func(x api.Term) api.Term { return api.Term{Kind: api.TermObject, Kids: []api.Term{x, hang}} }
	for i, x := range []struct {
		a api.Arena
		t api.Term
		e api.Errno
	}{
		{api.Arena{}, api.Term{}, api.ErrForm},
		{one, api.Term{}, api.ErrForm},
		{one, endless(), api.ErrLimit},
		{in, hang, api.ErrForm},
		{in, object(hang), api.ErrArg},
		{in, object(deep(100)), api.ErrArg},
		{in, object(deep(600)), api.ErrLimit},
		// The term is two nodes below the program.
		{one, deep(58), api.OK},
		{one, deep(59), api.ErrLimit},
		{one, wide(298, 2), api.OK},
		{one, wide(299, 1), api.ErrLimit},
	} {
		y, e := core.Tree(x.a, x.t)
		if e != x.e || e != api.OK && len(y.Nodes) > 0 {
			t.Errorf("%d: Tree: %d nodes, %v, not %v", i, len(y.Nodes), e, x.e)
		}
	}
	if x, _ := core.Tree(one, wide(298, 2)); len(x.Nodes) != api.MaxNodes {
		t.Errorf("Tree: %d nodes", len(x.Nodes))
	}
}

// wide returns a term that is not deep, of choices between numbers, each of which becomes two nodes, and hangs.
func wide(nums, hangs int) api.Term {
	switch {
	case nums+hangs > 1:
		n := nums / 2
		h := (nums+hangs)/2 - n
		return api.Term{Kind: api.TermChoose, Kids: []api.Term{wide(n, h), wide(nums-n, hangs-h)}}
	case nums == 1:
		return api.Term{Kind: api.TermNum, M: 1}
	}
	return api.Term{Kind: api.TermHang}
}

// speller is a model that writes a program for a term as a text, with brackets around everything.
type speller struct {
	a      api.Arena
	labels []string
	ids    []string
	named  int
}

func (w *speller) name(letter string) string {
	w.named++
	return letter + num(w.named)
}

// program writes the program of a term.
func (w *speller) program(x api.Term) string {
	var s string
	base := func(b api.Base) string {
		if b.Cell {
			return "cell " + num(b.N)
		}
		return "int " + num(b.N)
	}
	for i, t := range w.a.Ids {
		name := "x" + num(i+1)
		w.ids = append(w.ids, name)
		var l []string
		for _, b := range t.Params {
			l = append(l, base(b))
		}
		s += "import " + name + ":"
		if len(l) > 0 {
			s += "(" + strings.Join(l, ",") + ")->"
		}
		s += base(t.Result) + ";"
	}
	return s + "export main():" + base(w.a.Root) + "=" + w.term(x) + ";"
}

// within writes a term where one more identifier is in sight.
func (w *speller) within(name string, x api.Term) string {
	w.ids = append(w.ids, name)
	s := w.term(x)
	w.ids = w.ids[:len(w.ids)-1]
	return s
}

func (w *speller) term(x api.Term) string {
	kid := func(k int) string { return w.term(x.Kids[k]) }
	id := func() string { return w.ids[x.Id-1] }
	signs := map[int]string{api.OpAdd: "+", api.OpSub: "-", api.OpMul: "*", api.OpEq: "=", api.OpLess: "<"}
	switch x.Kind {
	case api.TermNum:
		return "(" + num(x.N) + " as " + num(x.M) + ")"
	case api.TermUse:
		var l []string
		for k := range x.Kids {
			l = append(l, kid(k))
		}
		if len(l) == 0 {
			return id()
		}
		return id() + "(" + strings.Join(l, ",") + ")"
	case api.TermVal, api.TermCell:
		return id()
	case api.TermGet:
		return "!" + id()
	case api.TermPut:
		return "(" + id() + ":=" + kid(0) + ")"
	case api.TermOp:
		return "(" + kid(0) + signs[x.N] + kid(1) + ")"
	case api.TermAs:
		return "(" + kid(0) + " as " + num(x.N) + ")"
	case api.TermSeq:
		return "(" + kid(0) + ";" + kid(1) + ")"
	case api.TermIf:
		return "(if " + kid(0) + " then " + kid(1) + " else " + kid(2) + ")"
	case api.TermWhile:
		return "(while " + kid(0) + " do " + kid(1) + ")"
	case api.TermChoose:
		return "(choose " + kid(0) + " else " + kid(1) + ")"
	case api.TermNew:
		c := w.name("c")
		return "(new " + c + ":" + num(x.N) + ":=" + num(x.M) + " in " + w.within(c, x.Kids[0]) + ")"
	case api.TermNotice:
		return "(notice " + id() + ":=" + num(x.N) + " in " + kid(0) + ")"
	case api.TermJump:
		return "jump " + w.labels[len(w.labels)-1-x.N]
	case api.TermLabel:
		l := w.name("l")
		w.labels = append(w.labels, l)
		first := kid(0)
		w.labels = w.labels[:len(w.labels)-1]
		return "(label " + l + " in " + first + " else " + kid(1) + ")"
	case api.TermObject:
		get := kid(0)
		v := w.name("v")
		return "{get " + get + ";put " + v + "." + w.within(v, x.Kids[1]) + "}"
	}
	return "hang"
}

// P7.5 and P7.8: the tree of a random term is that of the text that the model writes, without places; its core is the term again.
func TestModelOfTrees(t *testing.T) {
	r := source(30)
	compared, back := 0, 0
	for range 3000 {
		a, x := randomTerm(r)
		tree, e := core.Tree(a, x)
		if a.Root.Cell {
			if e != api.ErrArg {
				t.Fatalf("Tree of %s: %v", text(t, a, x), e)
			}
			continue
		}
		if e == api.ErrLimit {
			continue
		}
		if e != api.OK || parse.Check(tree) != api.OK {
			t.Fatalf("Tree of %s: %v", text(t, a, x), e)
		}
		if n, e := check.Program(tree); e != api.OK {
			t.Fatalf("%s: %d, %v", printed(tree), n, e)
		}
		jumps := r.Intn(2) == 0
		b, y, e := core.Of(tree, "main", jumps)
		a.Jumps = jumps
		if e != api.OK || !sameArena(a, b) || !sameTerm(x, y) {
			t.Fatalf("Of %s: %v, %v, %v", printed(tree), b, y, e)
		}
		back++
		if want, _, e := parse.Parse((&speller{a: a}).program(x)); e == api.OK {
			compared++
			if bare, _ := parse.Bare(want); !slices.Equal(tree.Nodes, bare.Nodes) {
				t.Fatalf("Tree of %s: %s, not %s", text(t, a, x), printed(tree), printed(bare))
			}
		}
	}
	if compared < 1000 || back < 1500 {
		t.Errorf("%d trees, %d of them were compared", back, compared)
	}
}
