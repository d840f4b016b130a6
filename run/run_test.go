package run_test

import (
	"slices"
	"strings"
	"testing"

	"riposte/api"
	"riposte/run"
)

// turned are programs, words and picks, and where they stand; a word that begins with ^ is one with jumps.
type turned struct {
	s, word   string
	picks     []int
	state     uint8
	next      string
	at, steps int
}

// spoken returns the session of what is turned.
func (x turned) session(t *testing.T) api.Session {
	t.Helper()
	if s, ok := strings.CutPrefix(x.word, "^"); ok {
		return jumpy(t, x.s, s, x.picks...)
	}
	return session(t, x.s, x.word, x.picks...)
}

func checkTurns(t *testing.T, l []turned) {
	t.Helper()
	for _, x := range l {
		u, e := run.Next(x.session(t))
		if e != api.OK || u.State != x.state || text(t, u.Moves) != x.next || u.At != x.at || u.Steps != x.steps {
			t.Errorf("%s, %s: Next: %v (%s), %v", x.s, x.word, u, text(t, u.Moves), e)
		}
	}
}

// P6.1: the examples of the chapter, and of the document.
func TestExamples(t *testing.T) {
	checkTurns(t, []turned{
		{plus, "0?", nil, api.StateAsks, "1?", 1, 2},
		{plus, "0? 1? 1!2", nil, api.StateOver, "0!0", 3, 3},
		{plus, "0? 1? 1!3", nil, api.StateOdd, "", 2, 2},
		{plus, "0? 0!0", nil, api.StateOdd, "", 1, 2},
		{leaves, "0? 1? 1.1?", nil, api.StateAsks, "1.1!*", 3, 3},
		{leaves, "0? 1? 1.1? 1.1!* 1!*", nil, api.StateOver, "0!0", 5, 4},
		{"import i:com; export m():com=i;", "^0? 1? 1!*", nil, api.StateOver, "0!*", 3, 1},
		{chance, "0?", []int{0}, api.StateOver, "0!0", 1, 2},
		{chance, "0?", []int{1}, api.StateHangs, "", 1, 2},
		{keeps, "0? 1? 1.1=1 1.1!0 1!0", nil, api.StateOver, "0!1", 5, 4},
	})
	l, e := run.Store(session(t, keeps, "0? 1? 1.1=1 1.1!0"))
	if want := []api.CellSeen{{Node: 7, N: 1}}; !slices.Equal(l, want) || e != api.OK {
		t.Errorf("Store: %v, %v", l, e)
	}
}

// P6.1: how nodes without kids, and those of integers, are evaluated.
func TestIntegers(t *testing.T) {
	two := func(size, term string) string {
		return "import i:int 5; import j:int 5; export m():" + size + "=" + term + ";"
	}
	checkTurns(t, []turned{
		{"export m():int 5=3;", "0?", nil, api.StateOver, "0!3", 1, 1},
		{"export m():bool=true;", "0?", nil, api.StateOver, "0!1", 1, 1},
		{"export m():bool=false;", "0?", nil, api.StateOver, "0!0", 1, 1},
		{"export m():com=skip;", "0?", nil, api.StateOver, "0!0", 1, 1},
		{"export m():com=hang;", "0?", nil, api.StateHangs, "", 1, 1},
		{"export m():com=hang;", "", nil, api.StateAsks, "", 0, 0},
		{"export m():com=hang;", "0? 0!0", nil, api.StateOdd, "", 1, 1},
		{"export m():com=hang;", "0? 0!0 0?", nil, api.StateOdd, "", 1, 1},
		// A number that is made one of another size is not evaluated.
		{"export m():int 4=11 as 4;", "0?", nil, api.StateOver, "0!3", 1, 1},
		{"export m():bool=11 as 4 as 2;", "0?", nil, api.StateOver, "0!1", 1, 2},
		{two("int 3", "i as 3"), "0? 1? 1!4", nil, api.StateOver, "0!1", 3, 2},
		{"export m():int 64=1000000 as 64;", "0?", nil, api.StateOver, "0!0", 1, 1},
		// The first kid is first, and the result is taken modulo the size.
		{two("int 5", "i+j"), "0? 1? 1!3", nil, api.StateAsks, "2?", 3, 3},
		{two("int 5", "i+j"), "0? 1? 1!3 2? 2!4", nil, api.StateOver, "0!2", 5, 3},
		{two("int 5", "i-j"), "0? 1? 1!3 2? 2!4", nil, api.StateOver, "0!4", 5, 3},
		{two("int 5", "i-j"), "0? 1? 1!4 2? 2!4", nil, api.StateOver, "0!0", 5, 3},
		{two("int 5", "i*j"), "0? 1? 1!3 2? 2!4", nil, api.StateOver, "0!2", 5, 3},
		{two("int 5", "i*0"), "0? 1? 1!3", nil, api.StateOver, "0!0", 3, 3},
		{two("bool", "i=j"), "0? 1? 1!3 2? 2!3", nil, api.StateOver, "0!1", 5, 3},
		{two("bool", "i=j"), "0? 1? 1!3 2? 2!2", nil, api.StateOver, "0!0", 5, 3},
		{two("bool", "i<j"), "0? 1? 1!3 2? 2!3", nil, api.StateOver, "0!0", 5, 3},
		{two("bool", "i<j"), "0? 1? 1!2 2? 2!3", nil, api.StateOver, "0!1", 5, 3},
		{two("bool", "i<j"), "0? 1? 1!3 2? 2!2", nil, api.StateOver, "0!0", 5, 3},
		{"export m():int 2=1-0+1*1+1;", "0?", nil, api.StateOver, "0!1", 1, 9},
		{"export m():int 64=63*63*63+63*63-62;", "0?", nil, api.StateOver, "0!2", 1, 11},
	})
}

// P6.1: what is evaluated at all, and how often.
func TestControl(t *testing.T) {
	with := func(term string) string {
		return "import i:bool; import j:bool; export m():bool=" + term + ";"
	}
	checkTurns(t, []turned{
		{with("i or j"), "0? 1? 1!1", nil, api.StateOver, "0!1", 3, 2},
		{with("i or j"), "0? 1? 1!0", nil, api.StateAsks, "2?", 3, 3},
		{with("i or j"), "0? 1? 1!0 2? 2!1", nil, api.StateOver, "0!1", 5, 3},
		{with("i and j"), "0? 1? 1!0", nil, api.StateOver, "0!0", 3, 2},
		{with("i and j"), "0? 1? 1!1", nil, api.StateAsks, "2?", 3, 3},
		{with("i and j"), "0? 1? 1!1 2? 2!0", nil, api.StateOver, "0!0", 5, 3},
		{with("not i"), "0? 1? 1!0", nil, api.StateOver, "0!1", 3, 2},
		{with("not i"), "0? 1? 1!1", nil, api.StateOver, "0!0", 3, 2},
		{with("(skip;i as 1);j"), "0? 1? 1!1", nil, api.StateAsks, "2?", 3, 6},
		{with("(skip;i as 1);j"), "0? 1? 1!1 2? 2!1", nil, api.StateOver, "0!1", 5, 6},
		{with("if i then false else j"), "0? 1? 1!1", nil, api.StateOver, "0!0", 3, 3},
		{with("if i then false else j"), "0? 1? 1!0", nil, api.StateAsks, "2?", 3, 3},
		{"import i:int 3; export m():int 3=if i then 1 else 2;", "0? 1? 1!2", nil, api.StateOver, "0!1", 3, 3},
		{with("(while i do j as 1);j"), "0? 1? 1!1 2? 2!0 1? 1!1 2? 2!1 1? 1!0", nil, api.StateAsks, "2?", 11, 10},
		{with("(while i do j as 1);j"), "0? 1? 1!0", nil, api.StateAsks, "2?", 3, 4},
		{"export m():com=while false do hang;", "0?", nil, api.StateOver, "0!0", 1, 2},
		{"export m():int 4=(choose 0 else 1)+(choose 0 else 2);", "0?", []int{4, -3, 1}, api.StateOver, "0!2", 1, 5},
		{"export m():int 4=(choose 0 else 1)+(choose 0 else 2);", "0?", []int{1}, api.StateOver, "0!1", 1, 5},
	})
	for _, x := range []struct {
		picks []int
		want  int
	}{{nil, 2}, {[]int{0}, 2}, {[]int{1, 1, 1}, 2}} {
		u, e := run.Next(session(t, "export m():com=(choose skip else skip);choose skip else skip;", "0?", x.picks...))
		if u.Picks != x.want || e != api.OK {
			t.Errorf("%v: %d picks, %v", x.picks, u.Picks, e)
		}
	}
}

// P6.1: cells, and what they are told.
func TestCells(t *testing.T) {
	imported := "import c:cell 3; export m():int 3=(c:=2);!c;"
	checkTurns(t, []turned{
		{"export m():int 3=new c:3:=2 in!c;", "0?", nil, api.StateOver, "0!2", 1, 2},
		{"export m():int 3=new c:3:=2 in((c:=!c+!c);!c);", "0?", nil, api.StateOver, "0!1", 1, 7},
		// Each time there is a new cell.
		{"import i:bool; export m():com=while i do new c:3:=1 in(if!c=2 then hang else skip;c:=2);", "0? 1? 1!1 1? 1!1 1? 1!0", nil, api.StateOver, "0!0", 7, 22},
		{imported, "0?", nil, api.StateAsks, "1=2", 1, 3},
		{imported, "0? 1=2 1!0", nil, api.StateAsks, "1?", 3, 4},
		{imported, "0? 1=2 1!1", nil, api.StateOdd, "", 2, 3},
		{imported, "0? 1=1", nil, api.StateOdd, "", 1, 3},
		{imported, "0? 1=2 1!0 1? 1!1", nil, api.StateOver, "0!1", 5, 4},
		// The kid of a put is evaluated before the question.
		{"import i:int 3; export m(c:cell 3):com=c:=i+1;", "0? 1? 1!2", nil, api.StateAsks, "2=0", 3, 4},
		{"import i:int 3; export m(c:cell 3):com=c:=i+1;", "^0? 1? 1!2 2=0 2!*", nil, api.StateOver, "0!*", 5, 4},
	})
}

// P6.1: jumps, labels and notices.
func TestJumps(t *testing.T) {
	again := "def t(k:(com)->int 3,a:int 3):int 3=label l in k(jump l)else a; "
	notice := "import f:(com)->com; export m():int 3=new c:3:=0 in((label l in notice c:=1 in notice c:=2 in f(jump l)else skip);!c);"
	inner := "import f:(com)->com; import g:(int 2)->com; export m():com=new c:2:=0 in label l in f(notice c:=1 in(g(!c);jump l))else g(!c);"
	checkTurns(t, []turned{
		{"export m():int 3=label l in 1 else 2;", "0?", nil, api.StateOver, "0!1", 1, 2},
		{"export m():int 3=label l in(jump l;1)else 2;", "0?", nil, api.StateOver, "0!2", 1, 4},
		// Of labels that are there twice, that of this time is meant.
		{again + "export m():int 3=t(fn(x)t(fn(y)(x;0),1),2);", "0?", nil, api.StateOver, "0!2", 1, 11},
		{again + "export m():int 3=t(fn(x)t(fn(y)(y;0),1),2);", "0?", nil, api.StateOver, "0!1", 1, 11},
		// A second kid is outside of its label.
		{"export m():int 3=label k in(label l in(jump l;0)else(jump k;1))else 2;", "0?", nil, api.StateOver, "0!2", 1, 7},
		// The outer notice is told last; none is, if no jump goes past.
		{notice, "0? 1? 1.1? 1.1!* 1!*", nil, api.StateOver, "0!1", 5, 9},
		{notice, "0? 1? 1!0", nil, api.StateOver, "0!0", 3, 7},
		{inner, "0? 1? 1.1? 2? 2.1? 2.1!0 2!0", nil, api.StateAsks, "1.1!*", 7, 8},
		{inner, "0? 1? 1.1? 2? 2!0 1.1!* 1!* 2? 2.1?", nil, api.StateAsks, "2.1!1", 9, 9},
		// What is lost is lost past all labels, but notices are told.
		{"import f:(com)->com; import i:com; export m():com=label l in(f(label k in i else jump l);hang)else hang;", "^0? 1? 1.1? 2? 2!*", nil, api.StateAsks, "1.1!*", 5, 5},
		{"import f:(com)->com; import i:com; export m():com=label l in(f(label k in i else jump l);hang)else hang;", "^0? 1? 1.1? 2? 2!* 1.1!* 1!*", nil, api.StateOver, "0!*", 7, 5},
		{"import f:(com)->com; import i:com; export m():com=label l in(f(label k in i else jump l);hang)else hang;", "^0? 1? 1.1? 2? 2!* 1.1!0", nil, api.StateOdd, "", 5, 5},
	})
	x := jumpy(t, "import f:(com)->com; import i:com; export m():com=new c:3:=0 in f(notice c:=2 in i);", "0? 1? 1.1? 2? 2!*")
	if l, e := run.Store(x); e != api.OK || len(l) != 1 || l[0].N != 2 {
		t.Errorf("Store: %v, %v", l, e)
	}
}

// P6.1: the export that is meant.
func TestExports(t *testing.T) {
	x := session(t, "export k():int 5=1; def d():int 5=2; export m():int 5=d; export n():int 5=3;", "0?")
	for name, want := range map[string]string{"k": "0!1", "m": "0!2", "n": "0!3"} {
		x.Export = name
		if u := next(t, x); text(t, u.Moves) != want {
			t.Errorf("%s: %v", name, u)
		}
	}
}

// P6.1: what is said, and counted, where things are called.
func TestCalls(t *testing.T) {
	object := "import f:(cell 3)->com; import k:(int 3)->com; export m():com=f({get 2;put v.k(v+1)});"
	checkTurns(t, []turned{
		// An argument that is an integer is evaluated each time.
		{"import i:int 5; def d(x:int 5):int 5=x+x; export m():int 5=d(i);", "0? 1? 1!1", nil, api.StateAsks, "1?", 3, 6},
		{"import i:int 5; def d(x:int 5):int 5=x+x; export m():int 5=d(i);", "0? 1? 1!1 1? 1!3", nil, api.StateOver, "0!4", 5, 6},
		{"def d(x:int 5):int 5=3; export m():int 5=d(hang;1);", "0?", nil, api.StateOver, "0!3", 1, 2},
		{"def d():int 5=3; def e(x:int 5):int 5=x; export m():int 5=e(d)+d;", "0?", nil, api.StateOver, "0!1", 1, 7},
		{"def d():int 5=3; def e(x:int 5):int 5=x; export m():int 5=e(d)+d;", "0? 0!3", nil, api.StateOdd, "", 1, 7},
		{"import f:(int 5,int 5)->com; export m(i:int 5):com=f(i,1);", "0? 1? 1.2? 1.2!1 1.1?", nil, api.StateAsks, "2?", 5, 3},
		{"import f:(int 5,int 5)->com; export m(i:int 5):com=f(i,1);", "0? 1? 1.2? 1.2!1 1.1? 2? 2!4", nil, api.StateAsks, "1.1!4", 7, 3},
		// A name of an integer is a node, wherever it stands.
		{"def e(y:int 5):int 5=y; def d(x:int 5):int 5=e(x); export m():int 5=d(1+1);", "0?", nil, api.StateOver, "0!2", 1, 7},
		{"def d():int 5=3; def e(y:int 5):int 5=y; export m():int 5=e(d);", "0?", nil, api.StateOver, "0!3", 1, 4},
		{"def e(y:int 5):int 5=y; export m(i:int 5):int 5=e(i);", "0?", nil, api.StateAsks, "1?", 1, 3},
		{"def d(c:cell 5):com=c:=3; def e(y:int 5):int 5=y; import k:(int 5)->com; export m():com=d({get 0;put v.k(v)});", "0? 1? 1.1?", nil, api.StateAsks, "1.1!3", 3, 5},
		{"def d(c:cell 5):com=c:=3; def e(y:int 5):com=y as 1; export m():com=d({get 0;put v.e(v)});", "0?", nil, api.StateOver, "0!0", 1, 7},
		{"def d(k:(int 5)->int 5):int 5=k(3); def e(y:int 5):int 5=y; export m():int 5=d(fn(x)e(x));", "0?", nil, api.StateOver, "0!3", 1, 6},
		// A name that is no integer is what it stands for.
		{hands, "0? 1? 1.1=1", nil, api.StateAsks, "2=1", 3, 1},
		{hands, "0? 1? 1.1=1 2=1 2!0", nil, api.StateAsks, "1.1!0", 5, 1},
		{hands, "0? 1? 1.1? 2? 2!2", nil, api.StateAsks, "1.1!2", 5, 1},
		{"def d(c:cell 2):com=c:=true; def e(c:cell 2):com=d(c); export m(g:cell 2):com=e(g);", "0?", nil, api.StateAsks, "1=1", 1, 4},
		{"import f:(bool)->com; def d(k:(bool)->com):com=k(true); def e(k:(bool)->com):com=d(k); export m():com=e(f);", "0? 1? 1.1?", nil, api.StateAsks, "1.1!1", 3, 4},
		{"def n(b:bool):bool=not b; def d(k:(bool)->bool):bool=k(true); def e(k:(bool)->bool):bool=d(k); export m():bool=e(n);", "0?", nil, api.StateOver, "0!0", 1, 6},
		{"def d(k:(cell 2)->com,c:cell 2):com=k(c); export m():bool=new c:2:=0 in(d(fn(x)x:=true,c);!c);", "0?", nil, api.StateOver, "0!1", 1, 7},
		// An object, asked and put, by others and by the program.
		{object, "0? 1? 1.1?", nil, api.StateAsks, "1.1!2", 3, 2},
		{object, "0? 1? 1.1=2 2? 2.1?", nil, api.StateAsks, "2.1!0", 5, 5},
		{object, "0? 1? 1.1=1 2? 2.1? 2.1!2 2.1? 2.1!2 2!0", nil, api.StateAsks, "1.1!0", 9, 8},
		{"def d(c:cell 3):int 3=(c:=2);!c+!c; export m():int 3=new x:3:=0 in d({get(x:=!x+1;!x);put v.x:=v});", "0?", nil, api.StateOver, "0!1", 1, 22},
		// What an argument says is in sight where it is written, not where it is asked.
		{"def d(k:(int 5)->int 5):int 5=k(1)+k(2); def e(x:int 5):int 5=d(fn(y)x+y); export m():int 5=e(3);", "0?", nil, api.StateOver, "0!4", 1, 15},
	})
}
