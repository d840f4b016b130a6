package check_test

import (
	"slices"
	"testing"

	"riposte/api"
	"riposte/check"
	"riposte/parse"
)

const none, cells, jumps, choices, loops, hangs = 0, api.EffCells, api.EffJumps, api.EffChoices, api.EffLoops, api.EffHangs

// P3.5: Effects of an item with one term.
func TestEffectsOfTerms(t *testing.T) {
	for s, want := range map[string]int{
		"skip": none, "true": none, "1+2*3-4 as 5": none, "a and b or not c": none, "a=b": none, "a<b": none, "a;b": none, "if a then b else c": none, "label l in a else b": none, "f(a,fn(x)x,{get a;put v.v})": none, "x": none,
		"new c:2:=0 in skip": cells, "!c": cells, "c:=1": cells, "notice c:=1 in skip": cells, "jump l": jumps, "choose a else b": choices, "while a do b": loops, "hang": hangs,
		"a;!c": cells, "a+hang": hangs, "if a then jump l else choose b else c": jumps | choices, "f(a,fn(x)hang)": hangs, "f({get!c;put v.jump l})": cells | jumps, "f({get 1;put v.while v do hang})": loops | hangs, "label l in jump l else new c:2:=0 in choose while a do b else hang": cells | jumps | choices | loops | hangs,
	} {
		for _, kind := range []string{"def", "export"} {
			x := parsed(t, kind+" m(k:(com)->com,c:cell 2):int 3="+s+";")
			if n, e := check.Effects(x, 1); n != want || e != api.OK {
				t.Errorf("Effects of %q: %d, %v, not %d", s, n, e, want)
			}
		}
	}
}

// named returns the names of items.
func named(x api.Tree, l []int) []string {
	var names []string
	for _, n := range l {
		names = append(names, x.Nodes[n].Text)
	}
	return names
}

// P3.5 and P3.12: what an item reaches, and the effects that it has by that.
func TestReach(t *testing.T) {
	const s = "import i:cell 3;def a():com=hang;def b():com=a;def c():com=choose a else skip;def d(x:com,y:com):com=!i;def e():com=d(b,c);def f():com=f;c;export g():com=b(0);!b;b:=0;notice b:=0 in skip;export h():com=jump a;export j(a:com):com=a;c;def k():com=g;z;i;new d:2:=0 in d;export m():com=b(fn(e)e,{get d;put c.c});"
	x := parsed(t, s)
	for name, want := range map[string]struct {
		reach   []string
		effects int
	}{
		"i": {nil, none}, "a": {nil, hangs}, "b": {[]string{"a"}, hangs}, "c": {[]string{"a"}, hangs | choices}, "d": {nil, cells}, "e": {[]string{"a", "b", "c", "d"}, hangs | choices | cells}, "f": {[]string{"a", "c"}, hangs | choices}, "g": {[]string{"a", "b"}, hangs | cells}, "h": {nil, jumps}, "j": {[]string{"a", "c"}, hangs | choices}, "k": {nil, cells}, "m": {[]string{"a", "b", "d"}, hangs | cells},
	} {
		n, _ := parse.Find(x, name)
		l, e := check.Reach(x, n)
		if !slices.Equal(named(x, l), want.reach) || e != api.OK || !slices.IsSorted(l) {
			t.Errorf("Reach of %s: %v, %v", name, named(x, l), e)
		}
		if k, e := check.Effects(x, n); k != want.effects || e != api.OK {
			t.Errorf("Effects of %s: %d, %v, not %d", name, k, e, want.effects)
		}
	}
	isItem := func(n int) bool { return slices.Contains(items(x), n) }
	for n := range x.Nodes {
		l, e := check.Reach(x, n)
		k, f := check.Effects(x, n)
		if !isItem(n) && (len(l) > 0 || k != 0 || e != api.ErrNone || f != api.ErrNone) || isItem(n) && (e != api.OK || f != api.OK) {
			t.Errorf("%d: %v, %v; %d, %v", n, l, e, k, f)
		}
	}
	for _, n := range []int{-1, len(x.Nodes), 1 << 62, -1 << 63} {
		_, e := check.Reach(x, n)
		_, f := check.Effects(x, n)
		if e != api.ErrRange || f != api.ErrRange {
			t.Errorf("%d: %v, %v", n, e, f)
		}
	}
}

// P3.5: a chain of as many definitions as there may be, and the example of the chapter.
func TestReachOfMany(t *testing.T) {
	call := func(name string) []api.TreeNode { return node(api.TreeNode{Kind: api.NameNode, Text: name}) }
	names := "abcdefghijklmnopqrstuvwx"
	l := [][]api.TreeNode{def("a", leaf(api.HangNode))}
	for k := 1; k < 24; k++ {
		l = append(l, def(names[k:k+1], call(names[k-1:k])))
	}
	x := program(l...)
	all := items(x)
	for k, n := range all {
		reach, e := check.Reach(x, n)
		effects, f := check.Effects(x, n)
		if !slices.Equal(reach, all[:k]) || e != api.OK || effects != hangs || f != api.OK {
			t.Errorf("%d: %v, %v; %d, %v", n, reach, e, effects, f)
		}
	}
	y, _, at := marked(t, "import i:bool; $def d(x:cell 3):com=x:=!x+1; $export m(k:(int 3)->com):com=new c:3:=0 in(while i do d(c);k(!c));")
	a, e := check.Effects(y, at[0])
	b, f := check.Effects(y, at[1])
	if a != cells || e != api.OK || b != cells|loops || f != api.OK {
		t.Errorf("%d, %v; %d, %v", a, e, b, f)
	}
}

// P3.5 and P3.12: random programs, as the model says it.
func TestEffectsOfRandomPrograms(t *testing.T) {
	r := source(8)
	reaching := 0
	for range 1000 {
		x := anyProgram(r)
		m := model{x.Nodes}
		for _, n := range items(x) {
			l, e := check.Reach(x, n)
			if want := m.reach(n); !slices.Equal(l, want) || e != api.OK {
				t.Fatalf("Reach of %d: %v, %v, not %v", n, l, e, want)
			}
			bits, e := check.Effects(x, n)
			if want := m.effects(n); bits != want || e != api.OK {
				t.Fatalf("Effects of %d: %d, %v, not %d", n, bits, e, want)
			}
			if len(l) > 1 {
				reaching++
			}
			for _, d := range l {
				if below, _ := check.Effects(x, d); below&^bits != 0 {
					t.Fatalf("%d has the effects %d, and %d, which it reaches, %d", n, bits, d, below)
				}
			}
		}
	}
	if reaching < 50 {
		t.Errorf("only %d items reach several", reaching)
	}
}

// P3.9: an item of a program that is cut behind it has the same error, but ErrTwice, and the same type, effects and reach.
func TestCut(t *testing.T) {
	r := source(9)
	for range 400 {
		x := anyProgram(r)
		for _, n := range items(x) {
			l := slices.Clone(x.Nodes[:n+x.Nodes[n].Size])
			l[0].Size = len(l)
			y := api.Tree{Nodes: l}
			k, e := check.Item(x, n)
			k2, e2 := check.Item(y, n)
			if e != api.ErrTwice && (k != k2 || e != e2) {
				t.Fatalf("Item of %d: %d, %v; cut %d, %v", n, k, e, k2, e2)
			}
			typ, e := check.Type(x, n)
			typ2, e2 := check.Type(y, n)
			if !sameType(typ, typ2) || e != e2 {
				t.Fatalf("Type of %d: %v, %v; cut %v, %v", n, typ, e, typ2, e2)
			}
			bits, _ := check.Effects(x, n)
			bits2, _ := check.Effects(y, n)
			reach, _ := check.Reach(x, n)
			reach2, _ := check.Reach(y, n)
			if bits != bits2 || !slices.Equal(reach, reach2) {
				t.Fatalf("%d: %d, %v; cut %d, %v", n, bits, reach, bits2, reach2)
			}
		}
	}
}
