package core_test

import (
	"strconv"
	"strings"
	"testing"

	"riposte/api"
	"riposte/arena"
	"riposte/check"
	"riposte/core"
	"riposte/sample"
)

// ofText returns the text of the core of the export m of a text's program, or its error.
func ofText(t *testing.T, s string) (string, api.Errno) {
	t.Helper()
	a, x, e := core.Of(parsed(t, s), "m", false)
	if e != api.OK {
		return "", e
	}
	return text(t, a, x), e
}

// checkTexts tests what becomes of programs.
func checkTexts(t *testing.T, programs map[string]string) {
	t.Helper()
	for s, want := range programs {
		if got, e := ofText(t, s); got != want || e != api.OK {
			t.Errorf("Of %s: %s, %v, not %s", s, got, e, want)
		}
	}
}

// P7.1: the chapter's examples.
func TestExamples(t *testing.T) {
	for s, want := range map[string]string{
		"import i:bool; export main():int 3=if i then 1 else 2;":                                    "if(x1,1/3,2/3)",
		"def d(x:com):com=x;x; export main(y:com):com=d(y);":                                        "seq(x1,x1)",
		"def g(c:cell 3):com=c:=!c+1; export main():int 3=new c:3:=0 in(g(c);!c);":                  "new/3/0(seq(=1(add/3(!1,1/3)),!1))",
		"def g(c:cell 2):com=c:=1; import p:(bool)->com; export main():com=g({get 0;put v.p(v)});":  "new/2/0(seq(=2(1/2),x1(!2)))",
		"import f:(cell 2)->com; export main():com=label l in f({get true;put v.jump l})else skip;": "label(x1(obj(1/2,jump/0)),0/1)",
		"def d(x:com):com=label a in x else skip; export main():com=label b in d(jump b)else skip;": "label(label(jump/1,0/1),0/1)",
	} {
		a, x, e := core.Of(parsed(t, s), "main", true)
		if e != api.OK || !a.Jumps || text(t, a, x) != want {
			t.Errorf("Of %s: %v, %v", s, x, e)
		}
	}
}

// P7.1: what becomes of each kind of nodes that is no name.
func TestKinds(t *testing.T) {
	head := "import i:bool;import c:cell 5;import j:int 5; export m():"
	checkTexts(t, map[string]string{
		head + "int 5=4;":                                    "4/5",
		head + "bool=true;":                                  "1/2",
		head + "bool=false;":                                 "0/2",
		head + "com=skip;":                                   "0/1",
		head + "com=hang;":                                   "hang",
		head + "com=0;":                                      "0/1",
		head + "bool=1;":                                     "1/2",
		head + "int 7=20 as 7;":                              "6/7",
		head + "int 7=20 as 5 as 7;":                         "as/7(0/5)",
		head + "int 7=!c as 7;":                              "as/7(!2)",
		head + "int 1=1000000 as 1;":                         "0/1",
		head + "bool=i or j=1;":                              "if(x1,1/2,eq/5(x3,1/5))",
		head + "bool=i and j<1;":                             "if(x1,less/5(x3,1/5),0/2)",
		head + "bool=not i;":                                 "if(x1,0/2,1/2)",
		head + "bool=1<!c;":                                  "less/5(1/5,!2)",
		head + "bool=1=2 as 4;":                              "eq/4(1/4,2/4)",
		head + "int 5=j+!c;":                                 "add/5(x3,!2)",
		head + "int 5=j-1-2;":                                "sub/5(sub/5(x3,1/5),2/5)",
		head + "int 5=3*j;":                                  "mul/5(3/5,x3)",
		head + "int 5=3*4;":                                  "mul/5(3/5,4/5)",
		head + "int 5=skip;j;":                               "seq(0/1,x3)",
		head + "int 5=skip;hang;j;":                          "seq(0/1,seq(hang,x3))",
		head + "int 5=skip;j as 1;3;":                        "seq(0/1,seq(as/1(x3),3/5))",
		head + "int 5=(skip;hang);skip;3;":                   "seq(seq(0/1,hang),seq(0/1,3/5))",
		head + "int 5=if j then 1 else 2;":                   "if(x3,1/5,2/5)",
		head + "com=while i do c:=j;":                        "while(x1,=2(x3))",
		head + "int 5=choose 1 else j;":                      "choose(1/5,x3)",
		head + "int 5=new d:7:=3 in!d as 5;":                 "new/7/3(as/5(!4))",
		head + "com=new d:1:=0 in new e:2:=1 in d:=0;":       "new/1/0(new/2/1(=4(0/1)))",
		head + "com=new d:1:=0 in(new e:2:=1 in e:=0;d:=0);": "new/1/0(seq(new/2/1(=5(0/2)),=4(0/1)))",
		head + "com=new d:9:=0 in label l in notice d:=8 in jump l else d:=1;":  "new/9/0(label(notice/4/8(jump/0),=4(1/9)))",
		head + "com=label l in label k in(jump l;jump k)else jump l else skip;": "label(label(seq(jump/1,jump/0),jump/0),0/1)",
	})
}

// P7.1: names of identifiers, definitions, and what stands for something else.
func TestNames(t *testing.T) {
	checkTexts(t, map[string]string{
		// Imports come first, in their order, then the params of the export.
		"import a:com; export n(z:com):com=z; export m(p:com):com=p;a; import b:com;":                  "seq(x3,x1)",
		"import f:(int 3,cell 2,cell 2)->bool; export m(c:cell 2):bool=f(2,c,{get not!c;put v.c:=v});": "x1(2/3,&2,obj(if(!2,0/2,1/2),=2(#3)))",
		"export m(f:(com)->com,g:(com)->com):com=f(g(f(skip)));":                                       "x1(x2(x1(0/1)))",
		// Definitions are put in each time; what they do not use makes nothing.
		"def d():int 3=2; export m():int 3=d*d;":                                    "mul/3(2/3,2/3)",
		"def d(x:com,y:com):com=y; export m(p:com):com=d(while true do p,p);p;":     "seq(x1,x1)",
		"def d(x:com,y:com):com=y;y; export m(p:com,q:com):com=d(p,q;q);":           "seq(seq(x2,x2),seq(x2,x2))",
		"def e(x:com):com=x; def d(x:com):com=e(x;e(x)); export m(p:com):com=d(p);": "seq(x1,x1)",
		// An argument has the names that are in sight where it stands.
		"def d(x:int 3):int 3=new c:3:=1 in x+!c; export m():int 3=new c:3:=2 in d(!c);":                        "new/3/2(new/3/1(add/3(!1,!2)))",
		"def d(x:int 3):int 3=new c:3:=1 in x+!c; export m():int 3=new c:3:=2 in d(new e:3:=0 in!e);":           "new/3/2(new/3/1(add/3(new/3/0(!3),!2)))",
		"def d(x:com):com=label a in label b in x else x else x; export m():com=label a in d(jump a)else hang;": "label(label(label(jump/2,jump/1),jump/0),hang)",
		"def d(x:com):com=label a in(x;jump a)else x; export m():com=label a in d(d(jump a))else hang;":         "label(label(seq(label(seq(jump/2,jump/0),jump/1),jump/0),label(seq(jump/1,jump/0),jump/0)),hang)",
		// What is handed on stands for what it stood for.
		"def d(c:cell 2):com=c:=!c; def e(c:cell 2):com=d(c); export m(c:cell 2):com=e(c);":                         "=1(!1)",
		"def d(c:cell 2):com=c:=!c; def e(c:cell 2):com=d(c); export m():com=new c:2:=1 in e(c);":                   "new/2/1(=1(!1))",
		"def d(k:(com)->com):com=k(hang); def e(k:(com)->com):com=d(k); export m(f:(com)->com):com=e(f);":           "x1(hang)",
		"def h(x:com):com=x;x; def d(k:(com)->com):com=k(hang); def e(k:(com)->com):com=d(k); export m():com=e(h);": "seq(hang,hang)",
		"import f:(cell 2)->com; def d(c:cell 2):com=f(c); export m():com=new c:2:=1 in d(c);":                      "new/2/1(x1(&2))",
	})
}

// P7.1: arguments with parameters.
func TestFunctions(t *testing.T) {
	checkTexts(t, map[string]string{
		"def g(k:(int 3)->com):com=k(1);k(2); export m(f:(int 3)->com):com=g(fn(x)if x then f(x)else skip);":                   "seq(if(1/3,x1(1/3),0/1),if(2/3,x1(2/3),0/1))",
		"def g(k:(com)->com):com=new c:2:=0 in k(c:=1); export m():com=new d:3:=0 in g(fn(x)(x;d:=2;x));":                      "new/3/0(new/2/0(seq(=2(1/2),seq(=1(2/3),=2(1/2)))))",
		"def g(k:(cell 3,int 3)->int 3,c:cell 3):int 3=k(c,!c+1); export m(p:cell 3):int 3=g(fn(d,x)(d:=x;!d),p);":             "seq(=1(add/3(!1,1/3)),!1)",
		"def g(k:(com)->com):com=label a in k(jump a)else skip; export m():com=label b in g(fn(x)(x;jump b))else hang;":        "label(label(seq(jump/0,jump/1),0/1),hang)",
		"def g(k:(com)->com):com=k(k(hang)); export m(p:com):com=g(fn(x)(p;x));":                                               "seq(x1,seq(x1,hang))",
		"def h(k:(cell 2)->com):com=k({get true;put v.hang}); export m():com=h(fn(c)c:=!c);":                                   "new/2/0(seq(=1(1/2),hang))",
		"def i(k:(com)->com,x:com):com=k(x); def h(k:(com)->com):com=i(fn(y)k(k(y)),skip); export m(p:com):com=h(fn(z)(z;p));": "seq(seq(0/1,x1),x1)",
	})
}

// P7.1: cells that are what they do when they are asked, and put.
func TestObjects(t *testing.T) {
	checkTexts(t, map[string]string{
		"def g(c:cell 3):int 3=!c+!c; export m(p:int 3):int 3=g({get p;put v.skip});": "add/3(x1,x1)",
		// What is put is evaluated once, and kept; within it the cell that keeps it has its number.
		"def g(c:cell 3):com=c:=!c; export m(p:int 3):com=g({get p;put v.if v<1 then skip else if v then hang else skip});":    "new/3/0(seq(=2(x1),if(less/3(!2,1/3),0/1,if(!2,hang,0/1))))",
		"def g(c:cell 3):com=c:=new d:3:=1 in!d; export m():com=g({get 0;put v.new e:3:=2 in e:=v});":                          "new/3/0(seq(=1(new/3/1(!2)),new/3/2(=2(!1))))",
		"def g(c:cell 3):com=c:=2; def h(c:cell 3):com=g({get!c;put w.c:=w+1}); export m(p:cell 3):com=h({get 0;put v.p:=v});": "new/3/0(seq(=2(2/3),new/3/0(seq(=3(add/3(!2,1/3)),=1(!3)))))",
		// As an argument it has a value; get has none.
		"import f:(cell 2)->com; export m():com=f({get true;put v.f({get v;put w.if w=v then skip else hang})});":                                      "x1(obj(1/2,x1(obj(#2,if(eq/2(#3,#2),0/1,hang)))))",
		"import f:(cell 2)->com; export m():com=f({get new c:2:=0 in!c;put v.new c2:2:=1 in c2:=v});":                                                  "x1(obj(new/2/0(!2),new/2/1(=3(#2))))",
		"import f:(cell 2)->com; def g(c:cell 2):com=new b:2:=0 in f(c); export m():com=new a:2:=1 in g({get!a;put v.a:=v});":                          "new/2/1(new/2/0(x1(obj(!2,=2(#4)))))",
		"import f:(cell 2)->com; def g(c:cell 2):com=label l in f(c)else skip; export m():com=label k in g({get(jump k;true);put v.jump k})else hang;": "label(label(x1(obj(seq(jump/1,1/2),jump/1)),0/1),hang)",
		// Where the value is handed on as an integer.
		"import f:(cell 2,bool)->com; def d(x:bool):com=f({get x;put v.skip},x); export m():com=f({get 0;put v.d(v)},0);": "x1(obj(0/2,x1(obj(#2,0/1),#2)),0/2)",
		"def d(x:bool):com=if x then skip else hang; def g(c:cell 2):com=c:=1; export m():com=g({get 0;put v.d(v)});":     "new/2/0(seq(=1(1/2),if(!1,0/1,hang)))",
	})
}

// P7.1: the errors of the arena, in their order; the arena is that of check.
func TestErrorsOfOf(t *testing.T) {
	ids := "import a:bool;import b:bool;import c:bool;import d:bool;import e:bool;import f:bool;import g:bool;import h:bool;"
	for s, want := range map[string]api.Errno{
		"export m():com=1;":                                             api.ErrType,
		"export m():com=x;":                                             api.ErrName,
		"export m():int 65=1;":                                          api.ErrRange,
		"export m():com=skip;export m():com=skip;":                      api.ErrTwice,
		"def n():com=1;export m():com=skip;":                            api.ErrType,
		"export n():com=skip;":                                          api.ErrNone,
		"def m():com=skip;":                                             api.ErrNone,
		"import m:com;":                                                 api.ErrNone,
		ids + "export m():com=skip;":                                    api.OK,
		ids + "export m(x:com):com=skip;":                               api.ErrLimit,
		ids + "export n(x:com):com=skip;":                               api.ErrNone,
		"import f:(com,com,com,com,com,com)->com; export m():com=skip;": api.ErrLimit,
	} {
		if _, e := ofText(t, s); e != want {
			t.Errorf("Of %s: %v, not %v", s, e, want)
		}
	}
	for i, x := range []struct {
		t api.Tree
		e api.Errno
	}{{api.Tree{}, api.ErrForm}, {api.Tree{Nodes: make([]api.TreeNode, 901)}, api.ErrLimit}} {
		if a, u, e := core.Of(x.t, "m", true); e != x.e || !sameArena(a, api.Arena{}) || !sameTerm(u, api.Term{}) {
			t.Errorf("%d: Of: %v, %v, %v", i, a, u, e)
		}
	}
	r := source(1)
	for range 200 {
		x, jumps := sample.Tree(r.Intn), r.Intn(2) == 0
		want, _, _ := check.Arena(x, "m", jumps)
		if a, _, e := core.Of(x, "m", jumps); e == api.OK && !sameArena(a, want) {
			t.Fatalf("Of %s: %v, not %v", printed(x), a, want)
		}
	}
}

// P7.1: check lets pass what has params and a cell as its result, which is in no right arena.
func TestNoArena(t *testing.T) {
	a, x, e := core.Of(parsed(t, "import f:(com)->cell 3; export m():int 3=f(skip);"), "m", false)
	want := api.Term{Kind: api.TermUse, Id: 1, Kids: []api.Term{{Kind: api.TermNum, M: 1}}}
	if e != api.OK || !sameTerm(x, want) || arena.Check(a) != api.ErrForm {
		t.Errorf("Of: %v, %v, %v", a, x, e)
	}
}

// P7.1 and R7: a term of MaxCore nodes is fine, one of more is not.
func TestMostNodes(t *testing.T) {
	// So many skips are twice as many nodes, less 1.
	skips := func(n int) string { return strings.TrimSuffix(strings.Repeat("skip;", n), ";") }
	for s, e := range map[string]api.Errno{
		skips(300):                api.OK,
		skips(299) + ";skip as 1": api.OK,
		skips(301):                api.ErrLimit,
		skips(300) + ";skip as 1": api.ErrLimit,
		"if true then hang else(" + skips(299) + ")": api.OK,
		"if true then hang else(" + skips(300) + ")": api.ErrLimit,
	} {
		if _, f := ofText(t, "export m():com="+s+";"); f != e {
			t.Errorf("%s: %v", s, f)
		}
	}
}

// P7.1 and R7: as many nodes as MaxTaken may be taken. Those that make nothing of their own count, too; arguments that are cells do not.
func TestMostTaken(t *testing.T) {
	// A call of a0 takes three nodes with its argument, one of a1 seven, and so on.
	s := "import f:(cell 2)->com;import c:cell 2;def a0(x:com):com=x;"
	for i := range 12 {
		n, m := strconv.Itoa(i), strconv.Itoa(i+1)
		s += "def a" + m + "(x:com):com=a" + n + "(a" + n + "(x));"
	}
	// This and a term of one node are 20000.
	s += "export m():com=a12(skip);a9(skip);a8(skip);a7(skip);a3(skip);"
	for last, e := range map[string]api.Errno{
		"a0(skip);skip;":                   api.OK,
		"a0(skip);skip as 1;":              api.ErrLimit,
		"a0(skip);1 as 1;":                 api.OK,
		"a0(skip);skip;skip;":              api.ErrLimit,
		"a0(skip);f(c);":                   api.OK,
		"a0(f(c));skip;":                   api.OK,
		"f({get 0;put v.skip});f(c);":      api.OK,
		"f({get 0;put v.skip as 1});f(c);": api.ErrLimit,
		"hang;hang;hang;hang;":             api.OK,
		"hang;hang;hang;hang;hang;":        api.ErrLimit,
		"a1(skip);":                        api.ErrLimit,
	} {
		if _, f := ofText(t, s+last); f != e {
			t.Errorf("%s: %v", last, f)
		}
	}
}

// P7.1: what would be greater than anything has its error all the same.
func TestGreatest(t *testing.T) {
	for _, x := range []string{"x;x", "x", "new c:2:=0 in x", "label l in x else x"} {
		s := "def a0(x:com):com=" + x + ";"
		for i := range 21 {
			n, m := strconv.Itoa(i), strconv.Itoa(i+1)
			s += "def a" + m + "(x:com):com=a" + n + "(a" + n + "(x));"
		}
		if _, e := ofText(t, s+"export m():com=a21(skip);"); e != api.ErrLimit {
			t.Errorf("%s: %v", x, e)
		}
	}
}
