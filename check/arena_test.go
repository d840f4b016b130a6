package check_test

import (
	"slices"
	"strconv"
	"strings"
	"testing"

	"riposte/api"
	"riposte/check"
)

func sameArena(x, y api.Arena) bool {
	return sameTypes(x.Ids, y.Ids) && x.Root == y.Root && x.Jumps == y.Jumps
}

func sameDeclared(x, y []api.Declared) bool {
	return slices.EqualFunc(x, y, func(a, b api.Declared) bool { return a.Name == b.Name && sameType(a.Type, b.Type) })
}

// P3.6: the arenas of exports.
func TestArena(t *testing.T) {
	const s = "import i:bool;export a():com=skip;def d(p:(com)->com):com=skip;import j:(int 3,cell 4)->int 5;export b(i2:cell 6,k:(cell 7)->bool):int 8=1;import late:cell 9;export c(x:int 64):int 64=63;"
	imports := []api.Declared{{Name: "i", Type: integer(2)}, {Name: "j", Type: arrow(integer(3), cell(4), integer(5))}, {Name: "late", Type: cell(9)}}
	x := parsed(t, s)
	for name, want := range map[string]struct {
		params []api.Declared
		root   api.Base
	}{
		"a": {nil, api.Base{N: 1}}, "b": {[]api.Declared{{Name: "i2", Type: cell(6)}, {Name: "k", Type: arrow(cell(7), integer(2))}}, api.Base{N: 8}}, "c": {[]api.Declared{{Name: "x", Type: integer(64)}}, api.Base{N: 64}},
	} {
		for _, jumps := range []bool{false, true} {
			a, l, e := check.Arena(x, name, jumps)
			wantIds := slices.Concat(imports, want.params)
			var types []api.Type
			for _, y := range wantIds {
				types = append(types, y.Type)
			}
			if !sameArena(a, api.Arena{Ids: types, Root: want.root, Jumps: jumps}) || !sameDeclared(l, wantIds) || e != api.OK {
				t.Errorf("Arena of %s: %v, %v, %v", name, a, l, e)
			}
		}
	}
	y := parsed(t, "export m():int 7=3;")
	if a, l, e := check.Arena(y, "m", true); !sameArena(a, api.Arena{Root: api.Base{N: 7}, Jumps: true}) || len(l) > 0 || e != api.OK {
		t.Errorf("Arena: %v, %v, %v", a, l, e)
	}
	z := parsed(t, theProgram)
	if a, _, e := check.Arena(z, "m", false); !sameArena(a, api.Arena{Ids: []api.Type{integer(2), arrow(integer(3), integer(1))}, Root: api.Base{N: 1}}) || e != api.OK {
		t.Errorf("Arena of the example: %v, %v", a, e)
	}
}

// manyImports returns some imports.
func manyImports(n int) string {
	var b strings.Builder
	for k := range n {
		b.WriteString("import i" + strconv.Itoa(k) + ":com;")
	}
	return b.String()
}

// P3.6: the errors of Arena, in their order, and its limits.
func TestArenaErrors(t *testing.T) {
	five, six := "(com,com,com,com,com)->com", "(com,com,com,com,com,com)->com"
	for _, x := range []struct {
		s, name string
		e       api.Errno
	}{
		{"", "m", api.ErrNone}, {theProgram, "m", api.OK}, {theProgram, "d", api.ErrNone}, {theProgram, "i", api.ErrNone}, {theProgram, "k", api.ErrNone}, {theProgram, "", api.ErrNone}, {theProgram, "M", api.ErrNone}, {theProgram, "m ", api.ErrNone}, {theProgram, strings.Repeat("m", 5000), api.ErrNone},
		{"export m():com=1;", "m", api.ErrType}, {"export m():com=1;", "x", api.ErrType}, {"export m():com=skip;def d():com=x;", "m", api.ErrName}, {"export m():com=skip;import i:int 65;", "m", api.ErrRange}, {"export m():com=skip;import m:com;", "m", api.ErrTwice},
		{manyImports(9) + "export m():com=1;", "m", api.ErrType}, {manyImports(9) + "export m():com=skip;", "x", api.ErrNone},
		{manyImports(8) + "export m():com=skip;", "m", api.OK}, {manyImports(9) + "export m():com=skip;", "m", api.ErrLimit}, {manyImports(7) + "export m(x:com):com=skip;", "m", api.OK}, {manyImports(8) + "export m(x:com):com=skip;", "m", api.ErrLimit}, {manyImports(7) + "export m(x:com,y:com):com=skip;", "m", api.ErrLimit}, {"export m(a:com,b:com,c:com,d:com,e:com,f:com,g:com,h:com):com=skip;", "m", api.OK}, {"export m(a:com,b:com,c:com,d:com,e:com,f:com,g:com,h:com,i:com):com=skip;", "m", api.ErrLimit}, {"export m():com=skip;" + manyImports(9), "m", api.ErrLimit},
		{manyImports(8) + "export m():com=skip;export n(x:com):com=skip;def d(x:com,y:com):com=skip;", "m", api.OK},
		{"import a:" + five + ";export m():com=skip;", "m", api.OK}, {"import a:" + six + ";export m():com=skip;", "m", api.ErrLimit}, {"export m(a:" + five + "):com=skip;", "m", api.OK}, {"export m(a:" + six + "):com=skip;", "m", api.ErrLimit}, {"export m():com=skip;import a:" + six + ";", "m", api.ErrLimit},
		{"export m():com=skip;export n(a:" + six + "):com=skip;def d(a:" + six + "):com=skip;", "m", api.OK}, {"def d(a:com,b:com,c:com,e:com,f:com,g:com):com=skip;export m():com=skip;", "m", api.OK},
	} {
		a, l, e := check.Arena(parsed(t, x.s), x.name, true)
		if e != x.e || e != api.OK && (!sameArena(a, api.Arena{}) || len(l) > 0) {
			t.Errorf("Arena of %.10q in %q: %v, %v, %v, not %v", x.name, x.s, a, l, e, x.e)
		}
	}
}

// P3.6 and R4: no two lists of a result are the same memory.
func TestArenaMemory(t *testing.T) {
	x := parsed(t, "import a:(com,bool)->com;import b:(com,bool)->com;export m(c:(com,bool)->com):com=skip;")
	a, l, _ := check.Arena(x, "m", false)
	for i := range l {
		for _, list := range [][]api.Base{a.Ids[i].Params, l[i].Type.Params} {
			want, want2, _ := check.Arena(x, "m", false)
			fill(list, api.Base{Cell: true, N: 99})
			for k := range l {
				if k > i && (!sameType(a.Ids[k], want.Ids[k]) || !sameType(l[k].Type, want2[k].Type)) {
					t.Fatalf("%d shares memory with %d", k, i)
				}
			}
		}
	}
	a, l, _ = check.Arena(x, "m", false)
	fill(a.Ids[1].Params, api.Base{N: 99})
	if l[1].Type.Params[0] != (api.Base{N: 1}) {
		t.Error("the arena and the names share memory")
	}
}
