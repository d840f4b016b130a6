package core_test

import (
	"math"
	"slices"
	"strings"
	"testing"

	"riposte/api"
	"riposte/core"
)

// values are numbers of any kind.
var values = []int{math.MinInt, -2, -1, 0, 1, 2, 3, 4, 63, 64, 65, 600, math.MaxInt}

// This file has a slow model of the chapter's table.

// seen is something that is in sight in the model: a cell or a value, by a TermNew or a TermObject, or an identifier of the arena.
type seen struct {
	api.Type
	isInner bool
}

// around is what is in sight at a place.
type around struct {
	seen   []seen
	labels int
}

func aroundOf(a api.Arena) around {
	var x around
	for _, t := range a.Ids {
		x.seen = append(x.seen, seen{Type: t})
	}
	return x
}

// with returns what is in sight where there is one thing more.
func (x around) with(b api.Base) around {
	x.seen = append(slices.Clone(x.seen), seen{api.Type{Result: b}, true})
	return x
}

// thing returns what is in sight by a number.
func (x around) thing(id int) (seen, bool) {
	if id < 1 || id > len(x.seen) {
		return seen{}, false
	}
	return x.seen[id-1], true
}

// row is a line of the table: which fields there are, the sizes of the kids, and the own one. A size is a number, or m, which hangs on the fields, or s, which all have that are s, or any one: ?.
type row struct{ fields, kids, size string }

var rows = map[uint8]row{
	api.TermNum:    {"NM", "", "m"},
	api.TermGet:    {"I", "", "m"},
	api.TermPut:    {"I", "m", "1"},
	api.TermOp:     {"NM", "mm", "m"},
	api.TermAs:     {"N", "?", "m"},
	api.TermSeq:    {"", "1s", "s"},
	api.TermIf:     {"", "?ss", "s"},
	api.TermWhile:  {"", "?1", "1"},
	api.TermNew:    {"NM", "s", "s"},
	api.TermLabel:  {"", "ss", "s"},
	api.TermJump:   {"N", "", "1"},
	api.TermChoose: {"", "ss", "s"},
	api.TermNotice: {"IN", "s", "s"},
	api.TermHang:   {"", "", "1"},
	api.TermVal:    {"I", "", "m"},
}

// fields returns m, if the fields of a term are right; it is 1 if it does not matter.
func (x around) fields(t api.Term) (int, bool) {
	y, isSeen := x.thing(t.Id)
	plain := isSeen && len(y.Params) == 0
	isSize := func(n int) bool { return n >= 1 && n <= 64 }
	switch t.Kind {
	case api.TermNum:
		return t.M, isSize(t.M) && t.N >= 0 && t.N <= t.M-1
	case api.TermGet, api.TermPut:
		return y.Result.N, plain && y.Result.Cell
	case api.TermOp:
		return t.M, t.N >= 1 && t.N <= 5 && isSize(t.M)
	case api.TermAs:
		return t.N, isSize(t.N)
	case api.TermNew:
		return 1, isSize(t.N) && t.M >= 0 && t.M <= t.N-1
	case api.TermJump:
		return 1, t.N >= 0 && t.N < x.labels
	case api.TermNotice:
		return 1, isSeen && y.isInner && y.Result.Cell && t.N >= 0 && t.N < y.Result.N
	case api.TermVal:
		return y.Result.N, isSeen && y.isInner && !y.Result.Cell
	}
	return 1, true
}

// size returns the size of a term, if it is right.
func (x around) size(t api.Term) (int, bool) {
	if t.Kind == api.TermUse {
		return x.use(t)
	}
	line, ok := rows[t.Kind]
	m, right := x.fields(t)
	has := func(letter string) bool { return strings.Contains(line.fields, letter) }
	if !ok || !right || t.Id != 0 && !has("I") || t.N != 0 && !has("N") || t.M != 0 && !has("M") || len(t.Kids) != len(line.kids) {
		return 0, false
	}
	same := 0
	for k, kid := range t.Kids {
		inner := x
		if t.Kind == api.TermNew {
			inner = x.with(cell(t.N))
		}
		if t.Kind == api.TermLabel && k == 0 {
			inner.labels++
		}
		n, ok := inner.size(kid)
		want := map[byte]int{'?': n, '1': 1, 'm': m, 's': same}[line.kids[k]]
		if line.kids[k] == 's' && same == 0 {
			same, want = n, n
		}
		if !ok || n != want {
			return 0, false
		}
	}
	if t.Kind == api.TermOp && t.N >= api.OpEq {
		return 2, true
	}
	return map[string]int{"1": 1, "m": m, "s": same}[line.size], true
}

// use returns the size of a TermUse.
func (x around) use(t api.Term) (int, bool) {
	y, ok := x.thing(t.Id)
	if !ok || y.isInner || y.Result.Cell || t.N != 0 || t.M != 0 || len(t.Kids) != len(y.Params) {
		return 0, false
	}
	for k, kid := range t.Kids {
		if !x.isArgument(kid, y.Params[k]) {
			return 0, false
		}
	}
	return y.Result.N, true
}

// isArgument tells whether a term is an argument for a base type.
func (x around) isArgument(t api.Term, b api.Base) bool {
	if !b.Cell {
		n, ok := x.size(t)
		return ok && n == b.N
	}
	y, ok := x.thing(t.Id)
	switch {
	case t.N != 0 || t.M != 0:
		return false
	case t.Kind == api.TermCell:
		return ok && len(y.Params) == 0 && y.Result == b && len(t.Kids) == 0
	case t.Kind != api.TermObject || t.Id != 0 || len(t.Kids) != 2:
		return false
	}
	get, ok1 := x.size(t.Kids[0])
	put, ok2 := x.with(integer(b.N)).size(t.Kids[1])
	return ok1 && ok2 && get == b.N && put == 1
}

// P7.2: random terms, and some of which something has been changed, are right just if the model says so.
func TestModelOfTerms(t *testing.T) {
	r := source(1)
	counts := map[bool]int{}
	kinds := map[uint8]int{}
	for range 4000 {
		a, x := randomTerm(r)
		changed(x, func(y *api.Term) { kinds[y.Kind]++ })
		if !aroundOf(a).isArgument(x, a.Root) {
			t.Fatalf("the model does not take %v", x)
		}
		for i := range 8 {
			right := aroundOf(a).isArgument(x, a.Root)
			counts[right]++
			e := core.Check(a, x)
			n, f := core.Size(a, x)
			if right && (e != api.OK || f != api.OK || n != a.Root.N) || !right && (e != api.ErrForm || f != api.ErrForm || n != 0) {
				t.Fatalf("%d: Check of %v in %v: %v; Size: %d, %v", i, x, a, e, n, f)
			}
			x = bent(r, x)
		}
	}
	if counts[true] < 5000 || counts[false] < 5000 {
		t.Errorf("terms that are right, and others: %v", counts)
	}
	for k := api.TermNum; k <= api.TermNotice; k++ {
		if kinds[k] < 100 {
			t.Errorf("kind %d: %d nodes", k, kinds[k])
		}
	}
}

// P7.2: the errors of a term: those of the arena, then ErrLimit, then ErrForm.
func TestErrorsOfTerms(t *testing.T) {
	hang := api.Term{Kind: api.TermHang}
	wide := api.Term{Kind: api.TermUse, Kids: slices.Repeat([]api.Term{{}}, 600)}
	one := api.Arena{Root: integer(1)}
	for i, x := range []struct {
		a api.Arena
		t api.Term
		e api.Errno
	}{
		{api.Arena{}, hang, api.ErrForm},
		{api.Arena{Root: integer(65)}, hang, api.ErrForm},
		{api.Arena{Ids: make([]api.Type, 9), Root: integer(1)}, hang, api.ErrLimit},
		{api.Arena{Ids: []api.Type{{Params: make([]api.Base, 6), Result: integer(1)}}, Root: integer(1)}, hang, api.ErrLimit},
		{api.Arena{}, wide, api.ErrForm},
		{one, wide, api.ErrLimit},
		{one, endless(), api.ErrLimit},
		{one, api.Term{Kids: wide.Kids[:599]}, api.ErrForm},
		{one, api.Term{}, api.ErrForm},
		{one, hang, api.OK},
		{api.Arena{Root: integer(2)}, hang, api.ErrForm},
		{api.Arena{Root: cell(1)}, hang, api.ErrForm},
		{api.Arena{Root: cell(1)}, api.Term{Kind: api.TermObject, Kids: []api.Term{hang, hang}}, api.OK},
		{api.Arena{Root: integer(1)}, api.Term{Kind: api.TermObject, Kids: []api.Term{hang, hang}}, api.ErrForm},
		{api.Arena{Root: cell(2)}, api.Term{Kind: api.TermObject, Kids: []api.Term{hang, hang}}, api.ErrForm},
	} {
		n, f := core.Size(x.a, x.t)
		if e := core.Check(x.a, x.t); e != x.e || f != x.e || (n == x.a.Root.N) != (x.e == api.OK) && n != 0 {
			t.Errorf("%d: Check: %v; Size: %d, %v; not %v", i, e, n, f, x.e)
		}
	}
}

// P7.2: cells, values and labels are in sight where they are, and nowhere else.
func TestInSight(t *testing.T) {
	a := place(t, "int 1; (int 2, cell 2) -> int 1; cell 2")
	for s, e := range map[string]api.Errno{
		"new/2/0(=3(!3))":                                  api.OK,
		"seq(new/2/0(=3(!3)),=3(0/2))":                     api.ErrForm,
		"seq(new/2/0(=3(!3)),new/2/1(=3(!3)))":             api.OK,
		"new/2/0(new/3/0(seq(=3(0/2),=4(0/3))))":           api.OK,
		"new/2/0(new/3/0(=3(0/3)))":                        api.ErrForm,
		"x1(0/2,obj(#3,hang))":                             api.ErrForm,
		"x1(0/2,obj(0/2,=2(#3)))":                          api.OK,
		"x1(#3,obj(0/2,hang))":                             api.ErrForm,
		"x1(0/2,obj(0/2,=3(#3)))":                          api.ErrForm,
		"x1(0/2,obj(0/2,=2(!3)))":                          api.ErrForm,
		"x1(0/2,obj(0/2,=2(x3)))":                          api.ErrForm,
		"new/2/0(=2(#3))":                                  api.ErrForm,
		"new/2/0(=2(x3))":                                  api.ErrForm,
		"x1(0/2,obj(0/2,x1(#3,&3)))":                       api.ErrForm,
		"x1(0/2,obj(0/2,x1(#3,obj(#3,seq(=2(#4),hang)))))": api.OK,
		"new/2/0(x1(!3,obj(!3,seq(=3(#4),x1(#4,&3)))))":    api.OK,
		"label(hang,label(jump/0,hang))":                   api.OK,
		"label(hang,label(jump/1,hang))":                   api.ErrForm,
		"label(x1(seq(jump/0,0/2),obj(0/2,jump/0)),hang)":  api.OK,
		"x1(0/2,&1)":                                       api.ErrForm,
		"x1(0/2,&2)":                                       api.OK,
		"new/3/0(x1(0/2,&3))":                              api.ErrForm,
		"seq(&2,hang)":                                     api.ErrForm,
		"x2":                                               api.ErrForm,
		"!1":                                               api.ErrForm,
		"new/2/0(notice/3/1(hang))":                        api.OK,
		"new/2/0(notice/3/2(hang))":                        api.ErrForm,
		"new/2/0(notice/2/1(hang))":                        api.ErrForm,
		"x1(0/2,obj(0/2,notice/3/1(hang)))":                api.ErrForm,
	} {
		if _, f := core.Parse(a, s); f != e {
			t.Errorf("%s: %v, not %v", s, f, e)
		}
	}
}

// P7.3: how many nodes there are, with any terms.
func TestNodes(t *testing.T) {
	chain := api.Term{}
	for range 599 {
		chain = api.Term{Kind: 77, Kids: []api.Term{chain}}
	}
	for i, x := range []struct {
		t    api.Term
		many int
		e    api.Errno
	}{
		{api.Term{}, 1, api.OK},
		{api.Term{Kids: make([]api.Term, 5)}, 6, api.OK},
		{api.Term{Kids: make([]api.Term, 599)}, 600, api.OK},
		{api.Term{Kids: make([]api.Term, 600)}, 0, api.ErrLimit},
		{chain, 600, api.OK},
		{api.Term{Kids: []api.Term{chain}}, 0, api.ErrLimit},
		{endless(), 0, api.ErrLimit},
		{api.Term{Kids: slices.Repeat([]api.Term{endless()}, 3)}, 0, api.ErrLimit},
	} {
		if n, e := core.Nodes(x.t); n != x.many || e != x.e {
			t.Errorf("%d: Nodes: %d, %v", i, n, e)
		}
	}
	r := source(2)
	for range 500 {
		_, x := randomTerm(r)
		if n, e := core.Nodes(x); n != count(x) || e != api.OK {
			t.Fatalf("Nodes of %v: %d, %v", x, n, e)
		}
	}
}

// P7.3: the identifiers of the arena that are named, in any way.
func TestUses(t *testing.T) {
	a := place(t, example)
	for s, want := range map[string][]int{
		"hang":                               nil,
		"seq(=2(0/3),hang)":                  {2},
		"x3(as/3(x1),obj(0/2,hang))":         {1, 3},
		"x3(!2,obj(x1,x3(!2,obj(#4,hang))))": {1, 2, 3},
		"new/2/0(x3(0/3,&4))":                {3},
		"new/2/0(seq(notice/4/1(=4(!4)),while(x1,hang)))": {1},
	} {
		if l, e := core.Uses(a, term(t, a, s)); !slices.Equal(l, want) || e != api.OK {
			t.Errorf("Uses of %s: %v, %v", s, l, e)
		}
	}
	b := place(t, "cell 3; cell 2; cell 3")
	if l, e := core.Uses(b, api.Term{Kind: api.TermCell, Id: 2}); !slices.Equal(l, []int{2}) || e != api.OK {
		t.Errorf("Uses of a cell: %v, %v", l, e)
	}
	if l, e := core.Uses(a, api.Term{Kind: api.TermGet, Id: 2}); len(l) > 0 || e != api.ErrForm {
		t.Errorf("Uses: %v, %v", l, e)
	}
	r := source(3)
	for range 500 {
		a, x := randomTerm(r)
		l, e := core.Uses(a, x)
		for id := range len(a.Ids) + 9 {
			named := false
			changed(x, func(y *api.Term) { named = named || y.Id == id })
			if named = named && id > 0 && id <= len(a.Ids); named != slices.Contains(l, id) || e != api.OK {
				t.Fatalf("Uses of %s: %v, %v", text(t, a, x), l, e)
			}
		}
		if !slices.IsSorted(l) {
			t.Fatalf("Uses of %s: %v", text(t, a, x), l)
		}
	}
}
