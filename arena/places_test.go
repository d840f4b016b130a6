package arena_test

import (
	"math"
	"slices"
	"testing"

	"riposte/api"
	"riposte/arena"
)

// P4.6: the places of the example, and what is none.
func TestPlace(t *testing.T) {
	for _, x := range []struct {
		id, arg int
		b       api.Base
		e       api.Errno
	}{
		{0, 0, integer(2), api.OK}, {1, 0, integer(1), api.OK}, {1, 1, integer(3), api.OK}, {1, 2, cell(2), api.OK}, {2, 0, cell(2), api.OK},
		{0, 1, api.Base{}, api.ErrNone}, {0, -1, api.Base{}, api.ErrNone}, {1, 3, api.Base{}, api.ErrNone}, {1, -1, api.Base{}, api.ErrNone}, {2, 1, api.Base{}, api.ErrNone}, {3, 0, api.Base{}, api.ErrNone}, {-1, 0, api.Base{}, api.ErrNone},
		{math.MinInt, 0, api.Base{}, api.ErrNone}, {math.MaxInt, 0, api.Base{}, api.ErrNone}, {1, math.MaxInt, api.Base{}, api.ErrNone}, {1, math.MinInt, api.Base{}, api.ErrNone},
	} {
		if b, e := arena.Place(example(), x.id, x.arg); b != x.b || e != x.e {
			t.Errorf("Place of %d, %d: %v, %v", x.id, x.arg, b, e)
		}
	}
}

// P4.6: what stands for identifiers.
func TestInner(t *testing.T) {
	for _, x := range []struct {
		a  api.Arena
		id int
		s  string
	}{
		{example(), 1, "int 1; int 3; cell 2; jumps"},
		{example(), 2, "cell 2"},
		{jumping(example()), 1, "int 1; int 3; cell 2; jumps"},
		{jumping(example()), 2, "cell 2; jumps"},
		{greatest(), 8, "int 64; cell 64; cell 64; cell 64; cell 64; cell 64; jumps"},
		{api.Arena{Ids: []api.Type{plain(integer(9))}, Root: cell(5)}, 1, "int 9"},
	} {
		a, e := arena.Inner(x.a, x.id)
		if e != api.OK || show(t, a) != x.s {
			t.Errorf("Inner of %v, %d: %v, %v", x.a, x.id, a, e)
		}
	}
	for _, id := range []int{math.MinInt, -1, 0, 3, 9, math.MaxInt} {
		if a, e := arena.Inner(example(), id); e != api.ErrNone || !sameArena(a, api.Arena{}) {
			t.Errorf("Inner of %d: %v, %v", id, a, e)
		}
	}
	if a, e := arena.Inner(api.Arena{Root: integer(2)}, 1); e != api.ErrNone || !sameArena(a, api.Arena{}) {
		t.Errorf("Inner of no identifier: %v, %v", a, e)
	}
}

// P4.6: further types.
func TestAdd(t *testing.T) {
	for _, x := range []struct {
		a api.Arena
		l []api.Type
		s string
	}{
		{example(), nil, "int 2; (int 3, cell 2) -> int 1; cell 2"},
		{example(), []api.Type{}, "int 2; (int 3, cell 2) -> int 1; cell 2"},
		{example(), []api.Type{plain(integer(7))}, "int 2; (int 3, cell 2) -> int 1; cell 2; int 7"},
		{jumping(example()), []api.Type{plain(cell(7)), arrow(integer(8), cell(9))}, "int 2; (int 3, cell 2) -> int 1; cell 2; cell 7; (cell 9) -> int 8; jumps"},
		{api.Arena{Root: cell(3)}, []api.Type{plain(integer(1))}, "cell 3; int 1"},
	} {
		a, e := arena.Add(x.a, x.l)
		if e != api.OK || show(t, a) != x.s {
			t.Errorf("Add of %v to %v: %v, %v", x.l, x.a, a, e)
		}
	}
	for _, a := range arenas(5, 100) {
		for many := range len(a.Ids) + 1 {
			begin := api.Arena{Ids: a.Ids[:many], Root: a.Root, Jumps: a.Jumps}
			if b, e := arena.Add(begin, a.Ids[many:]); e != api.OK || !sameArena(b, a) {
				t.Fatalf("Add of %v to %v: %v, %v", a.Ids[many:], begin, b, e)
			}
		}
	}
}

// P4.6 and R7: the errors of Add, and its limits.
func TestAddErrors(t *testing.T) {
	one := plain(integer(1))
	ones := func(n int) []api.Type { return slices.Repeat([]api.Type{one}, n) }
	six := arrow(integer(1), make([]api.Base, 6)...)
	for _, x := range []struct {
		a api.Arena
		l []api.Type
		e api.Errno
	}{
		{example(), ones(6), api.OK}, {example(), ones(7), api.ErrLimit}, {greatest(), nil, api.OK}, {greatest(), ones(1), api.ErrLimit},
		{example(), []api.Type{{}}, api.ErrForm}, {example(), []api.Type{one, plain(integer(65))}, api.ErrForm}, {example(), []api.Type{arrow(cell(1), integer(1))}, api.ErrForm},
		{example(), []api.Type{six}, api.ErrLimit}, {example(), []api.Type{{}, six}, api.ErrLimit}, {example(), make([]api.Type, 7), api.ErrLimit},
		// The errors of the arena that is handed over come before those of the one that would be returned.
		{api.Arena{}, ones(1), api.ErrForm}, {api.Arena{}, ones(9), api.ErrForm}, {api.Arena{}, []api.Type{six}, api.ErrForm}, {api.Arena{Ids: ones(9), Root: integer(1)}, nil, api.ErrLimit}, {api.Arena{Ids: ones(9)}, []api.Type{{}}, api.ErrLimit},
	} {
		a, e := arena.Add(x.a, x.l)
		if e != x.e || e != api.OK && !sameArena(a, api.Arena{}) {
			t.Errorf("Add of %v to %v: %v, %v, not %v", x.l, x.a, a, e, x.e)
		}
	}
}

// P4.13: the moves of Inner are those of the identifier, with the sides changed.
func TestInnerMoves(t *testing.T) {
	for _, a := range arenas(6, 60) {
		for id := 1; id <= len(a.Ids); id++ {
			inner, e := arena.Inner(a, id)
			if e != api.OK || arena.Check(inner) != api.OK {
				t.Fatalf("Inner of %v, %d: %v, %v", a, id, inner, e)
			}
			var want []api.Move
			for _, m := range movesOf(t, a) {
				if m.Id != id {
					continue
				}
				n := api.Move{Id: m.Arg, Kind: m.Kind, N: m.N}
				want = append(want, n)
				other, _ := arena.IsOther(a, m)
				same, e := arena.IsOther(inner, n)
				if e != api.OK || same == other {
					t.Fatalf("%v of %v: %v; inside %v, %v", m, a, other, same, e)
				}
			}
			if l := movesOf(t, inner); !slices.Equal(l, want) {
				t.Fatalf("Inner of %v, %d: %v, not %v", a, id, l, want)
			}
		}
	}
}
