package check_test

import (
	"slices"
	"strconv"
	"testing"

	"riposte/api"
	"riposte/check"
	"riposte/parse"
)

// erring tests that the first error of a program is at the node with the mark.
func erring(t *testing.T, want api.Errno, texts ...string) {
	t.Helper()
	for _, s := range texts {
		x, at, _ := marked(t, s)
		if len(at) != 1 {
			t.Fatalf("%q: not one mark", s)
		}
		if n, e := check.Program(x); n != at[0] || e != want {
			t.Errorf("Program of %q: %d, %v, not %d, %v", s, n, e, at[0], want)
		}
	}
}

// right tests that programs have no error.
func right(t *testing.T, texts ...string) {
	t.Helper()
	for _, s := range texts {
		if n, e := check.Program(parsed(t, s)); n != 0 || e != api.OK {
			t.Errorf("Program of %q: %d, %v", s, n, e)
		}
	}
}

// P3.1: ErrTwice.
func TestTwice(t *testing.T) {
	erring(t, api.ErrTwice,
		"import a:com;^import a:com;", "import a:com;^def a():com=skip;", "def a():com=skip;^export a():com=skip;", "export a():com=skip;^export a():com=skip;", "export a():com=skip;^import a:com;",
		"import a:com;import b:com;^def a():com=skip;def b():com=skip;",
		// a name of the item itself, of an item before it, behind it
		"def f(^f:com):com=skip;", "export f(^f:com):com=skip;", "import a:com;def f(^a:com):com=skip;", "def f(^a:com):com=skip;import a:com;", "def f(^a:com):com=skip;export a():com=skip;", "export g():com=skip;def f(^g:com):com=skip;",
		// a name in the item
		"def f(a:com,^a:com):com=skip;", "def f(a:com,b:bool,^a:bool):com=skip;", "def f(a:com):com=^new a:1:=0 in skip;", "def f(a:com):com=^label a in skip else skip;",
		"def f():com=new a:1:=0 in ^new a:1:=0 in skip;", "def f():com=(new a:1:=0 in skip);^new a:1:=0 in skip;", "def f():com=label a in skip else ^label a in skip else skip;", "def f():com=label a in skip else ^new a:1:=0 in skip;", "def f():com=^new f:1:=0 in skip;", "def f():com=^label f in skip else skip;",
		// BindNodes
		"def g(k:(com)->com):com=skip;def f(x:com):com=g(fn(^x)skip);", "def g(k:(com,com)->com):com=skip;def f():com=g(fn(x,^x)skip);", "def g(k:(com)->com):com=skip;def f():com=g(fn(x)g(fn(^x)skip));", "def g(k:(com)->com):com=skip;def f():com=g(fn(^g)skip);", "def g(k:(com)->com):com=skip;def f():com=g(fn(^f)skip);", "def g(k:(com)->com):com=skip;def f():com=g(fn(^h)skip);def h():com=skip;",
		"def g(c:cell 2):com=skip;def f(x:com):com=g({get 1;put ^x.skip});", "def g(c:cell 2):com=skip;def f():com=g({get(new v:2:=0 in 1);put ^v.skip});", "def g(c:cell 2):com=skip;def f():com=g({get 1;put v.^new v:2:=0 in skip});", "def g(c:cell 2):com=skip;def f():com=g({get 1;put ^h.skip});export h():com=skip;",
	)
	right(t,
		"def f(a:com):com=skip;def g(a:com):com=skip;export h(a:com):com=skip;", "def f():com=new a:1:=0 in skip;def g():com=label a in skip else skip;", "def f(x:com):com=x;def g():com=f(skip);",
	)
	// An item's name can be that of something in an item before it: then that one has the error.
	x := parsed(t, "def f(a:com):com=skip;def a():com=skip;")
	if n, e := check.Item(x, items(x)[1]); n != 0 || e != api.OK {
		t.Errorf("Item: %d, %v", n, e)
	}
}

// P3.1 and R7: ErrRange, and the limits.
func TestRange(t *testing.T) {
	for _, s := range []string{
		"import a:^int N;", "import a:^cell N;", "import a:(^int N)->com;", "import a:(com,^cell N,com)->com;", "import a:(com)->^int N;", "def f(a:^int N):com=skip;", "def f(a:bool,b:^cell N):com=skip;", "def f(a:(^int N)->com):com=skip;", "export f(a:(com)->^int N):com=skip;",
		"def f():^int N=0;", "export f():^int N=0;", "def f():^cell N=0;", "def f():com=^new c:N:=0 in skip;", "def f():com=skip;(0 ^as N)=0;skip;", "export f():bool=(choose skip else skip ^as N)=0;",
	} {
		for _, n := range []string{"0", "65", "1000000"} {
			erring(t, api.ErrRange, text(s, "N", n))
		}
		for _, n := range []string{"1", "2", "63", "64"} {
			x, at, _ := marked(t, text(s, "N", n))
			if k, e := check.Program(x); e == api.ErrRange {
				t.Errorf("Program of %q: %d, %v, at %v", s, k, e, at)
			}
		}
	}
	erring(t, api.ErrRange,
		"def f():com=^new c:1:=1 in skip;", "def f():com=^new c:3:=3 in skip;", "def f():com=^new c:3:=1000000 in skip;", "def f():com=^new c:64:=64 in skip;", "def f():com=^new c:0:=0 in skip;",
		"def f():com=skip;(new c:3:=2 in ^new d:3:=3 in skip);skip;", "import a:(^cell 65,int 0)->com;", "import a:(cell 64,^int 0)->com;", "def f(a:^int 65):int 65=0 as 65;",
	)
	right(t,
		"import a:(cell 64,int 64)->int 64;", "def f():com=new c:3:=2 in skip;", "def f():com=new c:1:=0 in skip;", "def f():com=new c:64:=63 in skip;", "def f(a:int 1,b:cell 1):int 64=63;", "def f():int 64=1000000 as 64;", "def f():com=1000000 as 1;",
	)
}

// P3.1: ErrName.
func TestName(t *testing.T) {
	erring(t, api.ErrName,
		"def f():com=^x;", "def f():com=^x(skip);", "def f():com=^!x;", "def f():com=^x:=0;", "def f():com=^notice x:=0 in skip;", "def f():com=^jump x;",
		"def f():com=^f;", "def f():com=^g;def g():com=skip;", "def f():com=^i;import i:com;", "export f():com=skip;export g():com=^f;", "export f():com=^f;", "export f(x:com):com=skip;def g():com=^f(skip);",
		"def f(x:com):com=skip;def g():com=^x;", "def f():com=(new c:1:=0 in skip);^c:=0;", "def f():com=label l in skip else ^jump l;", "def f():com=(label l in skip else skip);^jump l;",
		"def f():com=label l in ^l else skip;", "def f():com=label l in ^!l else skip;", "def f():com=label l in ^l(skip)else skip;", "def f():com=label l in ^l:=0 else skip;", "def f():com=label l in ^notice l:=0 in skip else skip;",
		"import x:com;def f():com=^jump x;", "def f(x:com):com=^jump x;", "def f():com=new c:1:=0 in ^jump c;", "def f():com=^jump f;",
		"def g(k:(com)->com):com=skip;def f():com=g(fn(x)skip);^x;", "def g(k:(com)->com,y:com):com=skip;def f():com=g(fn(x)skip,^x);", "def g(c:cell 2):com=skip;def f():com=g({get ^v;put v.skip});", "def g(c:cell 2):com=skip;def f():com=g({get 0;put v.skip});^v;", "def g(c:cell 2):com=skip;def f():com=g(^y);",
		"def f():com=skip;(if true then ^x else y);z;",
	)
	right(t,
		"def g(k:(com)->com):com=skip;def f():com=g(fn(x)x);", "def g(c:cell 2):com=skip;def f():com=g({get 0;put v.if v then skip else skip});", "def f():com=label l in jump l else skip;", "import x:com;def f():com=x;", "def f():com=skip;export g():com=f;",
	)
}

// P3.1: ErrType, row by row of the chapter's table.
func TestFits(t *testing.T) {
	const front = "import b:bool;import i:int 3;import c:cell 3;import k:(int 3)->int 3;import h:(cell 3,int 2)->com;def n():int 3=1;def d(x:int 3):int 3=1;"
	for s, size := range map[string]int{
		"true": 2, "false": 2, "skip": 1, "hang": 1, "label l in jump l else skip": 1, "i": 3, "b": 2, "n": 3, "!c": 3, "c:=1": 1, "k(1)": 3, "d(1)": 3, "h(c,1)": 1,
		"while b do skip": 1, "b or b": 2, "b and b": 2, "not b": 2, "i=1": 2, "1=i": 2, "i<1": 2, "1<i": 2, "1 as 3": 3, "5 as 3": 3, "b as 3": 3, "i as 2": 2,
		"skip;i": 3, "if b then i else i": 3, "new e:2:=0 in i": 3, "label l in i else i": 3, "new e:2:=0 in notice e:=1 in i": 3, "choose i else i": 3, "i+i": 3, "i-1": 3, "1*i": 3,
	} {
		for n := 1; n <= 4; n++ {
			_, e := check.Program(parsed(t, front+"export m():int "+strconv.Itoa(n)+"="+s+";"))
			if (e == api.OK) != (n == size) || e != api.OK && e != api.ErrType {
				t.Errorf("%s given %d: %v", s, n, e)
			}
		}
	}
	for i := range 8 {
		want := api.OK
		if i >= 5 {
			want = api.ErrType
		}
		if _, e := check.Program(parsed(t, "export m():int 5="+strconv.Itoa(i)+";")); e != want {
			t.Errorf("%d given 5: %v", i, e)
		}
	}
}

// P3.1: ErrType, and its node.
func TestTypeErrors(t *testing.T) {
	erring(t, api.ErrType,
		// the base of an item
		"def f():^cell 2=skip;", "export f(x:cell 2):^cell 2=!x;", "def f():^cell 1=skip;",
		// what does not fit
		"export m():com=^1;", "export m():int 3=^3;", "export m():int 3=^true;", "export m():int 3=^skip;", "export m():int 3=^hang;", "export m():int 3=label l in ^jump l else 0;", "import i:int 2;export m():int 3=^i;", "import i:cell 3;export m():int 3=^i;", "import i:(com)->int 3;export m():int 3=^i;",
		"export m(c:cell 2):int 3=^!c;", "export m(c:int 3):int 3=^!c;", "export m(c:(com)->int 3):int 3=^!c;", "def d():int 3=0;export m():int 3=^!d;",
		"export m(c:cell 2):bool=^c:=1;", "export m(c:cell 2):com=c:=^2;", "export m(c:int 2):com=^c:=1;", "import c:(com)->com;export m():com=^c:=0;", "export m(c:cell 2):com=c:=^skip;",
		"export m():int 3=^true;2;", "export m():int 3=skip;^true;2;", "export m():int 3=skip;^3;", "export m():int 3=skip;skip;^3;",
		"export m():com=if ^1 then skip else skip;", "export m():int 3=if true then ^3 else 2;", "export m():int 3=if true then 2 else ^3;", "export m():int 3=if(1^;2)then 0 else 0;", "export m():int 3=if(^1;true)then 0 else 0;",
		"export m():bool=^while true do skip;", "export m():com=while ^0 do skip;", "export m():com=while true do ^true;", "export m():com=while true do ^1;",
		"export m():int 3=new c:4:=0 in ^3;", "export m():int 3=new c:4:=0 in ^!c;", "export m():com=new c:4:=0 in ^c;",
		"export m():int 3=new c:4:=0 in notice c:=0 in ^3;", "export m():int 3=new c:4:=0 in ^notice c:=4 in 2;", "export m():com=new c:1:=0 in ^notice c:=1 in skip;", "export m(c:cell 4):com=^notice c:=0 in skip;", "import c:com;export m():com=^notice c:=0 in skip;", "def d():com=skip;export m():com=^notice d:=0 in skip;",
		"export m():int 3=label l in ^3 else 2;", "export m():int 3=label l in 2 else ^3;", "export m():int 3=choose ^3 else 2;", "export m():int 3=choose 2 else ^3;",
		"export m():com=skip ^or skip;", "export m():com=skip ^and skip;", "export m():com=^not skip;", "export m():bool=^2 or true;", "export m():bool=true or ^skip;", "export m():bool=^2 and true;", "export m():bool=true and ^skip;", "export m():bool=not ^2;",
		"export m():com=skip^=skip;", "export m():com=skip^<skip;", "export m():bool=1^=1;", "export m():bool=0^<0;", "export m():bool=(if true then 1 else 2)^=(1+1);", "import i:int 3;export m():bool=i=^3;", "import i:int 3;export m():bool=^3=i;", "import i:int 3;export m():bool=i<^true;", "import i:int 3;export m():bool=true<^i;",
		"export m():int 3=^3+1;", "export m():int 3=1+^3;", "export m():int 3=^3-1;", "export m():int 3=1-^3;", "export m():int 3=^3*1;", "export m():int 3=1*^3;", "export m():int 3=1+^true;",
		"export m():int 3=1 ^as 4;", "export m():int 3=true ^as 2;", "export m():int 3=(1^+1)as 3;", "export m():int 3=(if true then ^2 else 1;true)as 3;",
		// a node that is wrong, and what stands in it
		"export m():bool=^while 1 do true;", "export m():com=(1;2)^or 3;", "export m():com=^true;2;3;",
	)
	right(t,
		"export m():int 5=1000000 as 5;", "export m():int 3=(0;0);2;", "export m():bool=(if true then 1 else 2 as 3)=2;", "export m():bool=(2 as 3)=2;", "export m():bool=label l in(jump l;true)else false;", "export m():com=if 1 as 2 then skip else skip;", "export m():com=hang;", "export m():com=0;0;0;", "",
	)
}

// P3.1: calls and their arguments.
func TestCalls(t *testing.T) {
	erring(t, api.ErrType,
		// what is called, and with how many arguments
		"import k:(bool)->com;export m():com=^k;", "import k:com;export m():com=^k(skip);", "import k:cell 1;export m():com=^k(skip);", "def d():com=skip;export m():com=^d(skip);", "import k:(bool)->com;export m():com=^k(true,true);", "import k:(bool,bool)->com;export m():com=^k(true);", "def d(x:bool):com=skip;export m():com=^d(true,true);", "def d(x:bool,y:bool):com=skip;export m():com=^d(true);", "def d(x:bool):com=skip;export m():com=^d;", "export m():com=new c:1:=0 in ^c(skip);",
		"import k:(bool)->com;export m():bool=^k(true);", "import k:(bool)->int 4;export m():int 3=^k(true);", "def d(x:bool):int 4=1;export m():int 3=^d(true);", "def d(k:(com)->com):int 4=1;export m():int 3=^d(fn(x)x);",
		// an integer
		"import k:(bool)->com;export m():com=k(^2);", "import k:(bool)->com;export m():com=k(^skip);", "import k:(bool,com)->com;export m():com=k(0,^1);", "import k:(bool)->com;export m():com=k(^fn(x)true);", "import k:(bool)->com;export m():com=k(^{get 1;put v.skip});", "import k:(bool)->com;import c:cell 2;export m():com=k(^c);", "def d(x:bool):com=skip;export m():com=d(^fn(x)true);",
		// a cell
		"import k:(cell 2)->com;export m():com=k(^true);", "import k:(cell 2)->com;export m():com=k(^0);", "import k:(cell 2)->com;import c:cell 3;export m():com=k(^c);", "import k:(cell 2)->com;import c:bool;export m():com=k(^c);", "import k:(cell 2)->com;export m():com=new c:3:=0 in k(^c);", "import k:(cell 2)->com;import c:cell 2;export m():com=k(^!c);", "import k:(cell 2)->com;import c:cell 2;export m():com=k(skip^;c);", "import k:(cell 2)->com;export m():com=k(^fn(x)skip);", "import k:(cell 2)->com;import f:(bool)->com;export m():com=k(^f);",
		"import k:(cell 2)->com;export m():com=k({get ^2;put v.skip});", "import k:(cell 2)->com;export m():com=k({get ^skip;put v.skip});", "import k:(cell 2)->com;export m():com=k({get 1;put v.^v});", "import k:(cell 2)->com;export m():com=k({get 1;put v.^true});", "def d(c:cell 3):com=skip;export m():com=d({get ^3;put v.skip});",
		// something with params
		"def g(k:(bool)->com):com=skip;export m():com=g(^true);", "def g(k:(bool)->com):com=skip;export m():com=g(^skip);", "def g(k:(bool)->com):com=skip;export m():com=g(^{get 1;put v.skip});", "def g(k:(bool)->com):com=skip;export m():com=g(^fn(x,y)skip);", "def g(k:(bool,bool)->com):com=skip;export m():com=g(^fn(x)skip);", "def g(k:(bool)->com):com=skip;export m():com=g(fn(x)^x);", "def g(k:(bool)->com):com=skip;export m():com=g(fn(x)^true);", "def g(k:(int 3)->bool):com=skip;export m():com=g(fn(x)^x);",
		"def g(k:(bool)->com):com=skip;import j:(com)->com;export m():com=g(^j);", "def g(k:(bool)->com):com=skip;import j:(bool)->bool;export m():com=g(^j);", "def g(k:(bool)->com):com=skip;import j:(bool,bool)->com;export m():com=g(^j);", "def g(k:(bool)->com):com=skip;import j:(cell 2)->com;export m():com=g(^j);", "def g(k:(bool)->com):com=skip;import j:com;export m():com=g(^j);", "def g(k:(bool)->com):com=skip;export m():com=g(^g);", "def g(k:(com)->com):com=skip;def d():com=skip;export m():com=g(^d);", "def g(k:(cell 2,com)->com):com=skip;def d(x:com,c:cell 2):com=skip;export m():com=g(^d);",
		// names that are bound have the types of the param
		"def g(k:(cell 2)->com):com=skip;export m():com=g(fn(x)^x);", "def g(k:(cell 2)->com):com=skip;export m():com=g(fn(x)x:=^2);", "def g(k:(com,bool)->bool):com=skip;export m():com=g(fn(x,y)^x);", "import k:(cell 3)->com;export m():com=k({get 0;put v.if v=^3 then skip else skip});",
	)
	right(t,
		"import k:(bool)->com;export m():com=k(1);k(true);k(not 0);", "import k:(cell 2)->com;import c:cell 2;export m(d:cell 2):com=new e:2:=0 in(k(c);k(d);k(e));", "import k:(cell 2)->com;export m():com=k({get 1;put v.if v then skip else skip});", "def d(x:cell 2,y:bool):bool=!x and y;export m():bool=new c:2:=1 in d(c,!c);",
		"def g(k:(bool)->com):com=k(true);import j:(bool)->com;export m(i:(bool)->com):com=g(j);g(i);", "def g(k:(bool)->com):com=k(true);def h(b:bool):com=skip;export m():com=g(h);g(fn(x)while x do skip);", "def g(k:(cell 2)->bool):bool=new c:2:=0 in k(c);export m():bool=g(fn(d)(d:=1;!d));", "def g(k:(cell 2,com)->int 3):int 3=new c:2:=0 in k(c,skip);def h(c:cell 2,x:com):int 3=x;2;export m():int 3=g(h)+g(fn(c,x)(x;!c as 3));",
		"def g(k:(bool)->com):com=skip;def h(k:(bool)->com):com=g(k);export m():com=h(fn(x)skip);",
		// calls behind calls: an argument that is bound, an ObjectNode that is handed to what is bound
		"import p:(cell 3)->com;def g(k:(cell 3)->com):com=new c:3:=0 in k(c);export m():com=g(p);g(fn(c)p(c));g(fn(d)p({get !d;put v.d:=v}));",
	)
}

// P3.1: of several errors the one that is named first counts, then the least node.
func TestFirstError(t *testing.T) {
	erring(t, api.ErrTwice, "def f():int 65=x;true;^new f:1:=0 in skip;", "def f(a:int 65,^a:int 65):int 65=x;")
	erring(t, api.ErrRange, "def f():com=x;true;^new g:65:=0 in skip;", "def f(a:^int 0):com=new c:0:=0 in skip;")
	erring(t, api.ErrName, "def f():com=true;^x;y;", "def f():cell 2=^x;")
	erring(t, api.ErrType, "def f():com=^true;2;", "def f():^cell 2=true;")
	// The first item that has an error counts, whatever it is.
	erring(t, api.ErrType, "def f():com=^1;def f():com=skip;", "def f():com=^true;import a:int 65;")
	erring(t, api.ErrName, "import a:com;def f():com=^x;import b:int 65;import a:com;")
	erring(t, api.ErrRange, "import a:^int 65;import a:com;")
}

// P3.1: Item, of each node of a program.
func TestItem(t *testing.T) {
	x, at, starts := marked(t, "$export a():com=^x;$export b():com=^1;$export c():com=skip;$import d:^int 65;$def e(^e:com):com=skip;")
	want := map[int]api.Errno{starts[0]: api.ErrName, starts[1]: api.ErrType, starts[2]: api.OK, starts[3]: api.ErrRange, starts[4]: api.ErrTwice}
	places := map[int]int{starts[0]: at[0], starts[1]: at[1], starts[3]: at[2], starts[4]: at[3]}
	for n := range x.Nodes {
		k, e := check.Item(x, n)
		if w, ok := want[n]; !ok && (k != 0 || e != api.ErrNone) || ok && (k != places[n] || e != w) {
			t.Errorf("Item of %d: %d, %v", n, k, e)
		}
	}
	for _, n := range []int{-1, len(x.Nodes), 1 << 62, -1 << 63} {
		if k, e := check.Item(x, n); k != 0 || e != api.ErrRange {
			t.Errorf("Item of %d: %d, %v", n, k, e)
		}
	}
	if k, e := check.Program(x); k != at[0] || e != api.ErrName {
		t.Errorf("Program: %d, %v", k, e)
	}
}

// P3.1: what stands in other items makes types that do not fit, or sizes that are none.
func TestOtherItems(t *testing.T) {
	for s, want := range map[string]api.Errno{
		"import i:int 0;def f():com=while ^i do skip;":                           api.ErrType, // 0 is no own size
		"import i:int 0;def f():bool=i^=1;":                                      api.ErrType,
		"import i:int 65;def f():com=while i do skip;":                           api.OK,
		"import i:int 65;def f():bool=i=64;":                                     api.OK,
		"import i:int 65;def f():bool=i=^65;":                                    api.ErrType,
		"def g(x:int 0):com=skip;def f():com=g(^0);":                             api.ErrType,
		"import i:int 0;def g(x:int 0):com=skip;def f():com=g(i);":               api.OK,
		"def g(k:(com)->com):int 0=0;def d(x:int 0):com=skip;def f():com=d(^g);": api.ErrType, // no type is not the type of size 0
		"import i:cell 0;def f():com=i:=^0;":                                     api.ErrType,
		"def g():cell 2=skip;def f():bool=!g;":                                   api.OK,
		"def g():cell 2=skip;def f():bool=^g;":                                   api.ErrType,
		"import a:com;import a:bool;def f():bool=a;":                             api.OK,
		"import a:bool;import a:com;def f():bool=^a;":                            api.ErrType,
		"def g(x:com):com=y;def f():com=g(skip);":                                api.OK,
		"import k:(com)->cell 3;def f():int 3=k(skip);":                          api.OK, // the size of the Result is 3
		"import k:(com)->cell 3;def f():int 3=^!k;":                              api.ErrType,
	} {
		x, at, _ := marked(t, s)
		l := items(x)
		if len(at) == 0 {
			at = []int{0}
		}
		if n, e := check.Item(x, l[len(l)-1]); n != at[0] || e != want {
			t.Errorf("Item of %q: %d, %v, not %d, %v", s, n, e, at[0], want)
		}
	}
}

// P3.1 and R7: as many nodes, items, levels as there may be.
func TestGreatPrograms(t *testing.T) {
	skip := leaf(api.SkipNode)
	seq := node(api.TreeNode{Kind: api.SeqNode}, slices.Repeat([][]api.TreeNode{skip}, 896)...)
	x := program(def("f", seq))
	if n, e := check.Program(x); len(x.Nodes) != 900 || n != 0 || e != api.OK {
		t.Errorf("%d nodes: %d, %v", len(x.Nodes), n, e)
	}
	x.Nodes[899].Kind = api.TrueNode
	if n, e := check.Program(x); n != 899 || e != api.ErrType {
		t.Errorf("the last node: %d, %v", n, e)
	}
	deep := leaf(api.TrueNode)
	for range 57 {
		deep = node(api.TreeNode{Kind: api.NotNode}, deep)
	}
	// An own size that comes from the last one of many levels.
	var own []api.TreeNode
	for i := range 56 {
		if i == 0 {
			own = leaf(api.TrueNode)
		}
		own = node(api.TreeNode{Kind: api.ChooseNode}, node(api.TreeNode{Kind: api.NumNode, N: 1}), own)
	}
	for i, term := range [][]api.TreeNode{node(api.TreeNode{Kind: api.WhileNode}, deep, skip), node(api.TreeNode{Kind: api.WhileNode}, own, skip)} {
		x := program(def("f", term))
		if n, e := check.Program(x); n != 0 || e != api.OK {
			t.Errorf("%d: %d, %v", i, n, e)
		}
		if s, e := check.Size(x, len(x.Nodes)-2); s != 2 || e != api.OK {
			t.Errorf("%d: Size %d, %v", i, s, e)
		}
	}
	var l [][]api.TreeNode
	for k := range 24 {
		l = append(l, def("f"+strconv.Itoa(k), skip))
	}
	if n, e := check.Program(program(l...)); n != 0 || e != api.OK {
		t.Errorf("24 items: %d, %v", n, e)
	}
}

// P3.1: programs that were written to have no error, and such that were bent, as the model says it.
func TestItemsOfRandomPrograms(t *testing.T) {
	r := source(3)
	seen := map[api.Errno]int{}
	for range 5000 {
		x := anyProgram(r)
		m := model{x.Nodes}
		first, at := api.OK, 0
		for _, item := range items(x) {
			n, want, _ := m.errorOf(item)
			if k, e := check.Item(x, item); k != n || e != want {
				s, _ := parse.Print(x)
				t.Fatalf("Item of %d: %d, %v, not %d, %v\n%s", item, k, e, n, want, s)
			}
			if first == api.OK {
				first, at = want, n
			}
			seen[want]++
		}
		if n, e := check.Program(x); n != at || e != first {
			t.Fatalf("Program: %d, %v, not %d, %v", n, e, at, first)
		}
	}
	for _, e := range []api.Errno{api.OK, api.ErrTwice, api.ErrRange, api.ErrName, api.ErrType} {
		if seen[e] < 50 {
			t.Errorf("only %d items have %v", seen[e], e)
		}
	}
}

// P3.1 and P3.4: programs that were written to have no error have none, and their terms the sizes they were written for.
func TestWrittenPrograms(t *testing.T) {
	r := source(4)
	terms := map[uint8]int{}
	for range 600 {
		x := rightProgram(r)
		if n, e := check.Program(x); n != 0 || e != api.OK {
			s, _ := parse.Print(x)
			t.Fatalf("Program: %d, %v\n%s", n, e, s)
		}
		for n, y := range x.Nodes {
			if y.Kind < api.SeqNode || y.Kind > api.CallNode {
				continue
			}
			terms[y.Kind]++
			s, e := check.Size(x, n)
			if y.At < 0 && (s != 0 || e != api.ErrNone) || y.At >= 0 && (s != y.At || e != api.OK) {
				p, _ := parse.Print(x)
				t.Fatalf("Size of %d: %d, %v, not %d\n%s", n, s, e, y.At, p)
			}
		}
	}
	for kind := api.SeqNode; kind <= api.CallNode; kind++ {
		if terms[kind] < 20 {
			t.Errorf("only %d terms of the kind %d", terms[kind], kind)
		}
	}
}
