package check_test

import (
	"slices"
	"strconv"
	"testing"

	"riposte/api"
	"riposte/check"
	"riposte/parse"
)

// P3.4: Type, of the declarations with the mark.
func TestType(t *testing.T) {
	com, truth := integer(1), integer(2)
	for s, want := range map[string]api.Type{
		"^import a:com;": com, "^import a:bool;": truth, "^import a:int 9;": integer(9), "^import a:cell 9;": cell(9), "^import a:(com)->bool;": arrow(com, truth), "^import a:(cell 3,int 4,cell 5)->int 6;": arrow(cell(3), integer(4), cell(5), integer(6)), "^import a:(com)->cell 2;": arrow(com, cell(2)), "^import a:int 0;": integer(0), "^import a:(int 65)->cell 1000000;": arrow(integer(65), cell(1000000)),
		"def f(^a:com):com=skip;": com, "export f(x:com,^a:cell 7):com=skip;": cell(7), "def f(^a:(cell 2,com)->int 3,b:com):com=skip;": arrow(cell(2), com, integer(3)),
		"^def f():com=skip;": com, "^def f():int 5=f;": integer(5), "^def f(a:bool):int 5=true;": arrow(truth, integer(5)), "^def f(a:cell 2,b:com,c:cell 2):int 5=0;": arrow(cell(2), com, cell(2), integer(5)), "^export f(a:cell 2):bool=0;": arrow(cell(2), truth), "^export f():bool=0;": truth, "^def f():cell 5=skip;": cell(5), "^def f(a:int 0):int 70=skip;": arrow(integer(0), integer(70)),
		"def f():com=^new c:4:=0 in skip;": cell(4), "def f():com=^new c:0:=9 in skip;": cell(0),
		// BindNodes of FnNodes
		"def g(k:(com,cell 5)->bool):com=skip;def f():com=g(fn(^x,y)skip);": com, "def g(k:(com,cell 5)->bool):com=skip;def f():com=g(fn(x,^y)skip);": cell(5), "def g(a:com,k:(bool)->com,b:com):com=skip;def f():com=g(skip,fn(^x)skip,skip);": truth, "def g(k:(int 3)->com,l:(int 4)->com):com=skip;def f():com=g(fn(^x)x,fn(y)x);": integer(3), "def g(k:(int 3)->com,l:(int 4)->com):com=skip;def f():com=g(fn(x)x,fn(^y)x);": integer(4),
		"def g(k:(int 3)->com):com=skip;def f():com=g(fn(^x)x,1,2);": integer(3), "def g(k:(int 3)->com,l:com):com=skip;def f():bool=g(fn(^x)x);": integer(3), "def g(k:(int 3)->com):com=skip;def f():com=g(fn(y)g(fn(^x)x));": integer(3),
		"def g(k:(int 3)->com):com=skip;def g(k:(int 4)->com):com=skip;def f():com=g(fn(^x)x);": integer(4),
		// BindNodes of ObjectNodes
		"def g(c:cell 7):com=skip;def f():com=g({get 1;put ^v.skip});": integer(7), "import g:(com,cell 7)->com;def f():com=g(skip,{get 1;put ^v.skip});": integer(7), "def f(g:(cell 7)->com):com=g({get 1;put ^v.skip});": integer(7), "def g(k:(com)->com,c:cell 7):com=skip;def f():com=g(1,{get 1;put ^v.skip},2);": integer(7), "import g:(cell 7)->cell 2;def f():com=g({get g({get 1;put ^v.skip});put w.skip});": integer(7), "import g:(cell 7)->com;def f():com=g({get 1;put w.g({get w;put ^v.skip})});": integer(7),
		"import g:(cell 0)->com;def f():com=g({get 1;put ^v.skip});": integer(0),
	} {
		x, at, _ := marked(t, s)
		if k, e := check.Type(x, at[0]); !sameType(k, want) || e != api.OK {
			t.Errorf("Type in %q: %v, %v, not %v", s, k, e, want)
		}
	}
}

// P3.4: declarations that have no type, and what is no declaration.
func TestTypeErrorsOfDeclarations(t *testing.T) {
	for s, want := range map[string]api.Errno{
		"^def f(k:(com)->com):com=skip;": api.ErrType, "^export f(a:com,k:(com)->com,b:com):com=skip;": api.ErrType,
		"def g(k:(com)->com):com=skip;def f():com=g(fn(^x,y)skip);": api.ErrType, "def g(k:(com,com)->com):com=skip;def f():com=g(fn(^x)skip);": api.ErrType, "def g(k:com):com=skip;def f():com=g(fn(^x)skip);": api.ErrType, "def g(k:cell 2):com=skip;def f():com=g(fn(^x)skip);": api.ErrType, "def g(k:(com)->com):com=skip;def f():com=g(skip,fn(^x)skip);": api.ErrType, "def g():com=skip;def f():com=g(fn(^x)skip);": api.ErrType,
		"import g:(com)->com;def f():com=g(fn(^x)skip);": api.ErrType, "import g:com;def f():com=g(fn(^x)skip);": api.ErrType, "def f(g:(com)->com):com=g(fn(^x)skip);": api.ErrType, "def f():com=g(fn(^x)skip);": api.ErrType, "def f():com=new g:2:=0 in g(fn(^x)skip);": api.ErrType, "def f():com=label g in g(fn(^x)skip)else skip;": api.ErrType, "def f(k:(com)->com):com=f(fn(^x)skip);": api.ErrType, "export g(k:(com)->com):com=skip;def f():com=g(fn(^x)skip);": api.ErrType, "def g(k:(com)->com):com=skip;def f():com=g(fn(y)y(fn(^x)skip));": api.ErrType,
		"def g(c:bool):com=skip;def f():com=g({get 1;put ^v.skip});": api.ErrType, "def g(c:(cell 2)->com):com=skip;def f():com=g({get 1;put ^v.skip});": api.ErrType, "def g(c:(com)->cell 2):com=skip;def f():com=g({get 1;put ^v.skip});": api.ErrType, "def g(c:cell 2):com=skip;def f():com=g(1,{get 1;put ^v.skip});": api.ErrType, "import g:(int 2)->cell 2;def f():com=g({get 1;put ^v.skip});": api.ErrType, "import g:cell 2;def f():com=g({get 1;put ^v.skip});": api.ErrType, "def f():com=g({get 1;put ^v.skip});": api.ErrType, "def f():com=new g:2:=0 in g({get 1;put ^v.skip});": api.ErrType,
		"def f():com=^label l in skip else skip;": api.ErrNone, "def f():com=^skip;": api.ErrNone, "import a:^com;": api.ErrNone, "import a:^(com)->com;": api.ErrNone, "import a:com;def f():com=^a;": api.ErrNone, "def f():com=g(^fn(x)skip);": api.ErrNone, "def f():com=g(^{get 1;put v.skip});": api.ErrNone,
	} {
		x, at, _ := marked(t, s)
		if k, e := check.Type(x, at[0]); !sameType(k, api.Type{}) || e != want {
			t.Errorf("Type in %q: %v, %v", s, k, e)
		}
	}
	x := parsed(t, theProgram)
	if k, e := check.Type(x, 0); !sameType(k, api.Type{}) || e != api.ErrNone {
		t.Errorf("Type of the program: %v, %v", k, e)
	}
	for _, n := range []int{-1, len(x.Nodes), 1 << 62, -1 << 63} {
		_, a := check.Type(x, n)
		_, b := check.Size(x, n)
		if a != api.ErrRange || b != api.ErrRange {
			t.Errorf("%d: %v, %v", n, a, b)
		}
	}
}

// P3.4: the sizes of the nodes with the mark, one after the other.
func TestSize(t *testing.T) {
	for s, want := range map[string][]int{
		"export m():int 5=^3;": {5}, "export m():bool=^true;": {2}, "export m():com=^skip;": {1}, "export m():int 64=^63;": {64}, "def m():int 5=^3;": {5},
		"export m(c:cell 4):com=^c:=^2;": {1, 4}, "export m(c:cell 4):int 4=^!c;": {4}, "export m():int 7=^0^;^skip;^5;": {1, 7, 1, 7}, "export m():int 7=^0^;^5;": {1, 7, 7},
		"export m(b:int 3):int 7=^if ^b then ^1 else ^2;": {7, 3, 7, 7}, "export m(b:int 3):com=^while ^b do ^0;": {1, 3, 1}, "export m():int 7=^new c:3:=0 in ^1;": {7, 7}, "export m():int 7=^label l in ^1 else ^2;": {7, 7, 7}, "export m():int 7=new c:3:=0 in ^notice c:=2 in ^6;": {7, 7}, "export m():int 7=^choose ^1 else ^2;": {7, 7, 7},
		"export m():bool=^0 ^or ^1;": {2, 2, 2}, "export m():bool=^0 ^and ^1;": {2, 2, 2}, "export m():bool=^not ^1;": {2, 2}, "export m(i:int 9):bool=^i^=^8;": {9, 2, 9}, "export m(i:int 9):bool=^8^<^i;": {9, 2, 9}, "export m():int 9=^1^+^2^-^3^*^4;": {9, 9, 9, 9, 9, 9, 9},
		"export m():bool=(^1^+(^2 ^as 9))^=^8;": {9, 9, 9, 9, 2, 9}, "export m():int 9=^100 ^as 9;": {9, 9}, "export m(i:int 3):int 9=^i ^as 9;": {3, 9}, "export m(i:int 3):int 9=(^1^+^i)^as 9;": {3, 3, 3, 9}, "export m(i:int 3):bool=^5 ^as 6 ^as 2;": {6, 6, 2}, "export m():com=label l in ^jump l else ^hang;": {1, 1},
		"import k:(int 3,int 5)->int 7;export m():int 7=^k(^2,^4);": {7, 3, 5}, "def k(x:int 3):int 7=^6;export m():int 7=^k(^2);": {7, 7, 3}, "import k:(cell 3)->int 7;export m():int 7=^k({get ^2;put v.^while ^v do ^skip});": {7, 3, 1, 3, 1},
		"def g(k:(int 3,cell 4)->int 5):com=skip;export m():com=^g(fn(x,c)^if ^x then ^4 else(^!c ^as 5));": {1, 5, 3, 5, 4, 5}, "def g(k:(com)->com,c:cell 2,i:int 3):com=skip;export m(j:(com)->com,d:cell 2,h:int 3):com=^g(j,d,^h);": {1, 3},
		"import n:int 3;def o():int 3=^n;export m():int 3=^o^+^n;": {3, 3, 3, 3},
	} {
		x, at, _ := marked(t, s)
		var got []int
		for _, n := range at {
			k, e := check.Size(x, n)
			got = append(got, k)
			if e != api.OK {
				t.Errorf("Size of %d in %q: %v", n, s, e)
			}
		}
		if !slices.Equal(got, want) {
			t.Errorf("Sizes in %q: %v, not %v", s, got, want)
		}
	}
}

// P3.4: what has no size.
func TestSizeErrors(t *testing.T) {
	for s, want := range map[string]api.Errno{
		// no terms
		"^import a:^com;": api.ErrNone, "^import a:^(^com,^cell 3)->^bool;": api.ErrNone, "^def f(^a:^com):^com=skip;": api.ErrNone, "^export f():^com=skip;": api.ErrNone, "def g(k:(com)->com):com=skip;def f():com=g(^fn(^x)skip);": api.ErrNone, "def g(k:cell 2):com=skip;def f():com=g(^{get 0;put ^v.skip});": api.ErrNone,
		"def f():com=g(^fn(^x)skip);": api.ErrNone, "^import a:int 65;": api.ErrNone,
		// the errors of an item, in their order
		"def f():com=^skip^;^new f:65:=0 in ^x;^true;": api.ErrTwice, "def f():com=^skip^;^new g:65:=0 in ^x;^true;": api.ErrRange, "def f():com=^skip^;^x;^true;": api.ErrName, "def f():com=^skip^;^true;": api.ErrType, "def f():cell 2=^skip;": api.ErrType, "def f():int 65=^0;": api.ErrRange, "def f(a:int 65):com=^skip;": api.ErrRange, "def f(a:com,a:com):com=^skip;": api.ErrTwice, "def f():int 3=1^+^3;": api.ErrType, "def f():com=if ^1 then ^skip else ^skip;": api.ErrType,
		"def f(a:com):com=^a;def a():com=skip;": api.ErrTwice, "def g(c:cell 2):com=skip;export f(d:cell 2,e:cell 3):com=g(^d);g(^e);": api.ErrType, "def g(c:cell 2):com=skip;export f(d:cell 2):com=g(^d);^x;": api.ErrName,
		// arguments that have no size
		"def g(c:cell 2):com=skip;import c:cell 2;export f(d:cell 2):com=new e:2:=0 in(g(^c);g(^d);g(^e));": api.ErrNone, "import g:(com,cell 2)->com;export f(d:cell 2):com=g(skip,^d);": api.ErrNone, "def g(k:(bool)->com):com=skip;import i:(bool)->com;def h(b:bool):com=skip;export f(j:(bool)->com):com=g(^i);g(^h);g(^j);": api.ErrNone, "def g(k:(cell 2)->com):com=skip;import h:(cell 2)->com;export f():com=g(fn(c)h(^c));": api.ErrNone,
	} {
		x, at, _ := marked(t, s)
		for _, n := range at {
			if k, e := check.Size(x, n); k != 0 || e != want {
				t.Errorf("Size of %d in %q: %d, %v, not %v", n, s, k, e, want)
			}
		}
	}
	// The error of another item is none of this one.
	for _, s := range []string{"import a:int 65;def f():com=^skip;", "def g():com=true;def f():com=^skip;", "def f():com=^skip;def g():com=x;", "import a:com;import a:com;def f():com=^skip;"} {
		x, at, _ := marked(t, s)
		if k, e := check.Size(x, at[0]); k != 1 || e != api.OK {
			t.Errorf("Size in %q: %d, %v", s, k, e)
		}
	}
	x := parsed(t, "export f():com=skip;")
	if k, e := check.Size(x, 0); k != 0 || e != api.ErrNone {
		t.Errorf("Size of the program: %d, %v", k, e)
	}
}

// P3.4: own sizes, which the 0 that a term is compared with is given; 0 is none.
func TestOwnSizes(t *testing.T) {
	const front = "import i:int 5;import j:int 6;import c:cell 7;import k:(int 3)->int 8;def n():int 9=1;def d(x:int 3):int 10=1;def g(l:(com)->com,e:cell 3):int 11=1;import h:(cell 2)->int 12;"
	for s, own := range map[string]int{
		"0": 0, "true": 2, "false": 2, "skip": 1, "hang": 1, "i": 5, "n": 9, "!c": 7, "c:=1": 1, "k(1)": 8, "d(1)": 10, "g(fn(x)x,{get 0;put v.skip})": 11, "h({get 0;put v.skip})": 12,
		"true or true": 2, "true and true": 2, "not true": 2, "i=j as 5": 2, "i<0": 2, "0 as 13": 13, "i as 13": 13, "while i do skip": 1,
		"0;i": 5, "0;0": 0, "0;0;i": 5, "if i then j else 0": 6, "if i then 0 else j": 6, "if i then 0 else 0": 0, "new e:3:=0 in i": 5, "new e:3:=0 in !e": 3, "new e:3:=0 in 0": 0, "new e:3:=0 in notice e:=0 in i": 5, "new e:3:=0 in notice e:=0 in 0": 0,
		"label l in i else 0": 5, "label l in 0 else i": 5, "label l in 0 else 0": 0, "label l in jump l else 0": 1, "choose i else 0": 5, "choose 0 else i": 5, "choose 0 else 0": 0, "i+0": 5, "0+i": 5, "0+0": 0, "i-0": 5, "0-i": 5, "0-0": 0, "i*0": 5, "0*i": 5, "0*0": 0,
		"0+(if i then(0;0)else(label l in 0 else(0*j)))": 6, "(0+0)*(0-(0;0))": 0,
	} {
		for _, sign := range []string{"=", "<"} {
			x, at, signs := marked(t, front+"export m():bool=("+s+")$"+sign+"^0;")
			if own == 0 {
				if n, e := check.Program(x); n != signs[0] || e != api.ErrType {
					t.Errorf("Program with %q: %d, %v", s, n, e)
				}
				continue
			}
			if k, e := check.Size(x, at[0]); k != own || e != api.OK {
				t.Errorf("own size of %q: %d, %v, not %d", s, k, e, own)
			}
		}
	}
	// Of two own sizes the first one counts, and the second one does not fit. What has an own size need not fit.
	erring(t, api.ErrType,
		front+"export m():bool=i=^j;", front+"export m():bool=(i+^j)=0;", front+"export m():bool=(if i then j else ^i)=0;", front+"export m():bool=(choose j else ^i)=0;", front+"export m():bool=(label l in i else ^j)=0;",
		front+"export m():bool=^i(0)=0;", front+"export m():bool=^k(1,1)=0;", front+"export m():bool=^c(1)=0;", front+"export m():bool=^n(1)=0;", front+"export m():bool=k^=0;", front+"export m():bool=d^=0;", front+"export m():bool=c^=0;", front+"export m():bool=!i^=0;", front+"export m():bool=!k^=0;",
	)
}

// theKids are operations whose kids have one size.
var theKids = []uint8{api.OrNode, api.AndNode, api.EqNode, api.LessNode, api.AddNode, api.SubNode, api.MulNode}

// P3.4 and P3.10: random programs, as the model says it.
func TestTypesOfRandomPrograms(t *testing.T) {
	r := source(7)
	for range 300 {
		x := anyProgram(r)
		m := model{x.Nodes}
		errors, given := map[int]api.Errno{}, map[int]map[int]int{}
		for _, item := range items(x) {
			_, errors[item], given[item] = m.errorOf(item)
		}
		for n, y := range x.Nodes {
			want, ok := m.typeOf(n)
			wantErr := api.OK
			if !m.declares(n) || y.Kind == api.LabelNode {
				want, wantErr = api.Type{}, api.ErrNone
			} else if !ok {
				wantErr = api.ErrType
			}
			if k, e := check.Type(x, n); !sameType(k, want) || e != wantErr {
				t.Fatalf("Type of %d: %v, %v, not %v, %v", n, k, e, want, wantErr)
			}
			size, sizeErr := 0, api.ErrNone
			if m.isTerm(n) {
				item := m.item(n)
				sizeErr = errors[item]
				if s, ok := given[item][n]; sizeErr == api.OK && ok {
					size = s
				} else if sizeErr == api.OK {
					sizeErr = api.ErrNone
				}
			}
			s, e := check.Size(x, n)
			if s != size || e != sizeErr {
				t.Fatalf("Size of %d: %d, %v, not %d, %v", n, s, e, size, sizeErr)
			}
			if e != api.OK {
				continue
			}
			if own := m.own(n); own != 0 && own != s {
				t.Fatalf("%d has the own size %d and is given %d", n, own, s)
			}
			kids, _ := parse.Kids(x, n)
			if slices.Contains(theKids, y.Kind) {
				a, _ := check.Size(x, kids[0])
				b, _ := check.Size(x, kids[1])
				if a != b || a == 0 {
					t.Fatalf("%d: the kids have the sizes %d and %d", n, a, b)
				}
			}
		}
	}
}

// P3.4: the examples of the chapter, and all limits of sizes.
func TestTypesOfTheExamples(t *testing.T) {
	x, _, at := marked(t, "import i:bool; $def d(x:cell 3):com=x:=!x+1; $export m($k:(int 3)->com):com=new c:3:=0 in(while i do d(c);k(!c));")
	a, e := check.Type(x, at[0])
	b, f := check.Type(x, at[2])
	c, g := check.Type(x, at[1])
	if !sameType(a, arrow(cell(3), integer(1))) || e != api.OK || !sameType(b, arrow(integer(3), integer(1))) || f != api.OK || !sameType(c, api.Type{}) || g != api.ErrType {
		t.Errorf("%v, %v; %v, %v; %v, %v", a, e, b, f, c, g)
	}
	for size := 1; size <= api.MaxSize; size++ {
		x, at, _ := marked(t, "export m():int "+strconv.Itoa(size)+"=^"+strconv.Itoa(size-1)+";")
		if k, e := check.Size(x, at[0]); k != size || e != api.OK {
			t.Errorf("%d: %d, %v", size, k, e)
		}
		x, at, _ = marked(t, "export m():int "+strconv.Itoa(size)+"=^"+strconv.Itoa(size)+";")
		if n, e := check.Program(x); n != at[0] || e != api.ErrType {
			t.Errorf("%d: %d, %v", size, n, e)
		}
	}
}
