package arena_test

import (
	"math"
	"math/rand"
	"reflect"
	"slices"
	"testing"

	"riposte/api"
	"riposte/arena"
)

// arenaCalls are all functions with an arena, with their results as lists of any.
func arenaCalls(a api.Arena, m api.Move, id, arg int, l []api.Type) map[string][]any {
	r := map[string][]any{}
	tell := func(name string, results ...any) { r[name] = results }
	tell("Check", arena.Check(a))
	l1, e1 := arena.Moves(a)
	tell("Moves", l1, e1)
	b2, e2 := arena.Has(a, m)
	tell("Has", b2, e2)
	b3, e3 := arena.IsOther(a, m)
	tell("IsOther", b3, e3)
	l4, e4 := arena.Answers(a, m)
	tell("Answers", l4, e4)
	l5, e5 := arena.Under(a, m)
	tell("Under", l5, e5)
	b6, e6 := arena.Place(a, id, arg)
	tell("Place", b6, e6)
	a7, e7 := arena.Inner(a, id)
	tell("Inner", a7, e7)
	a8, e8 := arena.Add(a, l)
	tell("Add", a8, e8)
	s9, e9 := arena.Show(a)
	tell("Show", s9, e9)
	return r
}

// textCalls are all other functions.
func textCalls(m, n api.Move, s string) map[string][]any {
	r := map[string][]any{}
	tell := func(name string, results ...any) { r[name] = results }
	tell("Less", arena.Less(m, n), api.OK)
	s1, e1 := arena.Text(m)
	tell("Text", s1, e1)
	m2, e2 := arena.Parse(s)
	tell("Parse", m2, e2)
	a3, e3 := arena.Read(s)
	tell("Read", a3, e3)
	return r
}

// isZero tells whether a result is its zero value (a list: empty).
func isZero(x any) bool {
	if a, ok := x.(api.Arena); ok {
		return sameArena(a, api.Arena{})
	}
	v := reflect.ValueOf(x)
	return v.IsZero() || v.Kind() == reflect.Slice && v.Len() == 0
}

// checkErrors tests R2: with an error every result is a zero value.
func checkErrors(t *testing.T, r map[string][]any) {
	t.Helper()
	for name, l := range r {
		last := len(l) - 1
		if l[last] != api.OK && slices.ContainsFunc(l[:last], func(x any) bool { return !isZero(x) }) {
			t.Fatalf("%s: %v", name, l)
		}
	}
}

// numbers are numbers of any kind.
var numbers = []int{math.MinInt, -2, -1, 0, 1, 2, 3, 5, 6, 8, 9, 63, 64, 65, math.MaxInt}

func anyMove(r *rand.Rand) api.Move {
	return api.Move{Id: pick(r, numbers...), Arg: pick(r, numbers...), Kind: uint8(r.Intn(6)), N: pick(r, numbers...)}
}

// anyType returns a type that no function has made.
func anyType(r *rand.Rand) api.Type {
	some := func() api.Base { return api.Base{Cell: r.Intn(2) == 0, N: pick(r, numbers...)} }
	t := plain(some())
	for range r.Intn(8) {
		t.Params = append(t.Params, some())
	}
	return t
}

func anyArena(r *rand.Rand) api.Arena {
	a := randomArena(r)
	if r.Intn(2) == 0 {
		a.Root = anyType(r).Result
	}
	for range r.Intn(3) {
		a.Ids = append(a.Ids, anyType(r))
	}
	return a
}

// copied returns an arena that shares no memory with another one.
func copied(a api.Arena) api.Arena {
	a.Ids = slices.Clone(a.Ids)
	for i, t := range a.Ids {
		a.Ids[i].Params = slices.Clone(t.Params)
	}
	return a
}

// P1, P2, R2 and R8: all functions, with any values.
func TestAnyValues(t *testing.T) {
	r := source(13)
	for i := range 20000 {
		a := anyArena(r)
		if i%3 > 0 {
			a = randomArena(r)
		}
		m := anyMove(r)
		id, arg := pick(r, numbers...), pick(r, numbers...)
		l := []api.Type{anyType(r), randomType(r)}[:r.Intn(3)]
		s := bent(r, pick(r, "", "int 2; jumps", "1.1=3", "int 2; (int 2) -> int 4", "\xff", "1!*"), "0123456789;, ()->?!=*.\x00\xff")
		before := copied(a)
		first := arenaCalls(a, m, id, arg, l)
		texts := textCalls(m, anyMove(r), s)
		checkErrors(t, first)
		checkErrors(t, texts)
		if second := arenaCalls(before, m, id, arg, slices.Clone(l)); !reflect.DeepEqual(first, second) {
			t.Fatalf("%v, %v: results differ", a, m)
		}
		if !sameArena(a, before) {
			t.Fatal("an argument was changed")
		}
	}
}

// R1: all functions with an arena have first its errors.
func TestBadArenas(t *testing.T) {
	right := []api.Move{{Kind: api.MoveAsk}, {Kind: api.MoveTell}, {Id: 9, Kind: 7}}
	for what, x := range badArenas() {
		for i, m := range right {
			for _, id := range []int{-1, 0, 1, 9} {
				l := slices.Repeat([]api.Type{{}, plain(integer(1))}, 5*i)
				for name, results := range arenaCalls(x.a, m, id, id, l) {
					last := len(results) - 1
					if results[last] != x.e || slices.ContainsFunc(results[:last], func(y any) bool { return !isZero(y) }) {
						t.Errorf("%s of %s: %v, not %v", name, what, results, x.e)
					}
				}
			}
		}
	}
}

// R3: nil and empty lists are the same, as arguments and as results.
func TestNilAndEmpty(t *testing.T) {
	none := api.Arena{Ids: []api.Type{plain(integer(2)), plain(cell(3))}, Root: integer(2)}
	empty := copied(none)
	for i := range empty.Ids {
		empty.Ids[i].Params = []api.Base{}
	}
	without, withEmpty := api.Arena{Root: integer(2)}, api.Arena{Ids: []api.Type{}, Root: integer(2)}
	for _, m := range []api.Move{{Kind: api.MoveAsk}, {Id: 1, Kind: api.MoveAsk}, {Id: 2, Kind: api.MoveTell}} {
		if x, y := arenaCalls(none, m, 1, 0, nil), arenaCalls(empty, m, 1, 0, []api.Type{}); !reflect.DeepEqual(x, y) {
			t.Errorf("%v: %v, not %v", m, y, x)
		}
		if x, y := arenaCalls(without, m, 0, 0, nil), arenaCalls(withEmpty, m, 0, 0, []api.Type{}); !reflect.DeepEqual(x, y) {
			t.Errorf("%v: %v, not %v", m, y, x)
		}
	}
}

// fill changes all memory of a list.
func fill[T any](l []T, x T) {
	l = l[:cap(l)]
	for i := range l {
		l[i] = x
	}
}

// spoil changes all memory of a result.
func spoil(x any) {
	base := api.Base{Cell: true, N: -9}
	switch y := x.(type) {
	case []api.Move:
		fill(y, api.Move{Id: -9})
	case api.Arena:
		for _, k := range y.Ids {
			fill(k.Params, base)
		}
		fill(y.Ids, api.Type{Result: base})
	}
}

// spare returns a list with room behind its end, and all of the memory.
func spare[T any](l []T, sentinel T) (list, all []T) {
	all = append(slices.Clone(l), slices.Repeat([]T{sentinel}, 9)...)
	return all[:len(l)], all
}

// P2 and R4: neither arguments nor what lies behind their ends are changed; results are new memory.
func TestMemory(t *testing.T) {
	sentinel := cell(-7)
	params, allParams := spare([]api.Base{integer(3), cell(2)}, sentinel)
	more, allMore := spare([]api.Base{cell(4), cell(5)}, sentinel)
	ids, allIds := spare([]api.Type{arrow(integer(1), params...), plain(cell(2))}, plain(sentinel))
	ids[0].Params = params
	added, allAdded := spare([]api.Type{{Params: more, Result: integer(6)}, plain(integer(7))}, plain(sentinel))
	a := api.Arena{Ids: ids, Root: integer(2)}
	wantIds, wantAdded := slices.Clone(allIds), slices.Clone(allAdded)
	for _, m := range movesOf(t, a) {
		for id := range 3 {
			want := arenaCalls(a, m, id, 0, added)
			for range 2 {
				got := arenaCalls(a, m, id, 0, added)
				if !reflect.DeepEqual(got, want) {
					t.Fatalf("%v: %v, not %v", m, got, want)
				}
				for _, results := range got {
					for _, y := range results {
						spoil(y)
					}
				}
			}
		}
	}
	kept := func(l []api.Base, first ...api.Base) bool {
		return slices.Equal(l, slices.Concat(first, slices.Repeat([]api.Base{sentinel}, 9)))
	}
	if !kept(allParams, integer(3), cell(2)) || !kept(allMore, cell(4), cell(5)) || !slices.EqualFunc(allIds, wantIds, sameType) || !slices.EqualFunc(allAdded, wantAdded, sameType) {
		t.Error("an argument, or what lies behind it, was changed")
	}
}

// R4: no two lists of a result are the same memory, also where those of an argument are.
func TestResultMemory(t *testing.T) {
	shared := []api.Base{integer(2), integer(3)}
	one := arrow(integer(4), shared...)
	a := api.Arena{Ids: []api.Type{one, one}, Root: integer(1)}
	for i := range 4 {
		b, e := arena.Add(a, a.Ids)
		if e != api.OK {
			t.Fatal(e)
		}
		fill(b.Ids[i].Params, cell(9))
		for k := range b.Ids {
			if k != i && !sameType(b.Ids[k], one) {
				t.Errorf("%d shares memory with %d", k, i)
			}
		}
	}
	s := "int 1; (int 2, int 3) -> int 4; (int 2, int 3) -> int 4"
	b, _ := arena.Read(s)
	fill(b.Ids[0].Params, cell(9))
	if !sameType(b.Ids[1], one) {
		t.Error("what Read returns shares memory in itself")
	}
	if c, e := arena.Read(s); e != api.OK || !sameArena(c, a) {
		t.Errorf("Read again: %v, %v", c, e)
	}
}
