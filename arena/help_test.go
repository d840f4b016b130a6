package arena_test

import (
	"math/rand"
	"slices"
	"strings"
	"testing"

	"riposte/api"
	"riposte/arena"
)

// source returns the same numbers in each run, so that a test that fails fails again.
func source(seed int64) *rand.Rand { return rand.New(rand.NewSource(seed)) }

func pick[T any](r *rand.Rand, l ...T) T { return l[r.Intn(len(l))] }

func integer(n int) api.Base { return api.Base{N: n} }

func cell(n int) api.Base { return api.Base{Cell: true, N: n} }

// plain returns a type without Params.
func plain(b api.Base) api.Type { return api.Type{Result: b} }

// arrow returns a type with Params.
func arrow(result api.Base, params ...api.Base) api.Type {
	return api.Type{Params: params, Result: result}
}

// example is the arena of the chapter's examples.
func example() api.Arena {
	return api.Arena{Ids: []api.Type{arrow(integer(1), integer(3), cell(2)), plain(cell(2))}, Root: integer(2)}
}

// jumping returns an arena with Jumps.
func jumping(a api.Arena) api.Arena {
	a.Jumps = true
	return a
}

// greatest is the arena with most moves.
func greatest() api.Arena {
	c := cell(api.MaxSize)
	t := arrow(integer(api.MaxSize), slices.Repeat([]api.Base{c}, api.MaxParams)...)
	return api.Arena{Ids: slices.Repeat([]api.Type{t}, api.MaxIds), Root: c, Jumps: true}
}

// randomBase returns a base type that is right.
func randomBase(r *rand.Rand) api.Base {
	return api.Base{Cell: r.Intn(3) == 0, N: pick(r, 1, 1, 2, 2, 3, 4, 5, 63, 64)}
}

func randomType(r *rand.Rand) api.Type {
	t := plain(randomBase(r))
	if r.Intn(2) == 0 {
		return t
	}
	t.Result.Cell = false
	for range 1 + r.Intn(api.MaxParams) {
		t.Params = append(t.Params, randomBase(r))
	}
	return t
}

// randomArena returns an arena that is right.
func randomArena(r *rand.Rand) api.Arena {
	a := api.Arena{Root: randomBase(r), Jumps: r.Intn(2) == 0}
	for range r.Intn(api.MaxIds + 1) {
		a.Ids = append(a.Ids, randomType(r))
	}
	return a
}

// arenas are arenas that are right: small ones, great ones, and random ones.
func arenas(seed int64, many int) []api.Arena {
	l := []api.Arena{
		{Root: integer(1)}, {Root: cell(1)}, {Root: integer(64), Jumps: true}, {Root: cell(64), Jumps: true},
		example(), jumping(example()), greatest(),
		{Ids: []api.Type{plain(integer(1)), plain(cell(1)), arrow(integer(1), cell(1))}, Root: integer(1)},
	}
	r := source(seed)
	for range many {
		l = append(l, randomArena(r))
	}
	return l
}

// badArenas are arenas with errors, and their errors.
func badArenas() map[string]struct {
	a api.Arena
	e api.Errno
} {
	type bad = struct {
		a api.Arena
		e api.Errno
	}
	one := integer(1)
	with := func(l ...api.Type) api.Arena { return api.Arena{Ids: l, Root: one} }
	return map[string]bad{
		"nothing":                     {api.Arena{}, api.ErrForm},
		"a Root of 0":                 {api.Arena{Root: integer(0)}, api.ErrForm},
		"a Root of 65":                {api.Arena{Root: integer(65)}, api.ErrForm},
		"a Root below 0":              {api.Arena{Root: integer(-1)}, api.ErrForm},
		"a Root that is a cell of 0":  {api.Arena{Root: cell(0)}, api.ErrForm},
		"a Root that is a cell of 65": {api.Arena{Root: cell(65)}, api.ErrForm},
		"an empty type":               {with(api.Type{}), api.ErrForm},
		"a Result of 65":              {with(plain(one), plain(integer(65))), api.ErrForm},
		"a cell of 0":                 {with(plain(cell(0))), api.ErrForm},
		"a param of 0":                {with(arrow(one, integer(0))), api.ErrForm},
		"a last param of 65":          {with(arrow(one, one, one, one, one, cell(65))), api.ErrForm},
		"a cell with params":          {with(arrow(cell(1), one)), api.ErrForm},
		"a Result of 0 with params":   {with(arrow(integer(0), one)), api.ErrForm},
		"nine Ids":                    {with(slices.Repeat([]api.Type{plain(one)}, 9)...), api.ErrLimit},
		"six Params":                  {with(arrow(one, slices.Repeat([]api.Base{one}, 6)...)), api.ErrLimit},
		"six Params at the end":       {with(slices.Concat(slices.Repeat([]api.Type{plain(one)}, 7), []api.Type{arrow(one, make([]api.Base, 6)...)})...), api.ErrLimit},
		// ErrLimit comes first, whatever else is wrong, and wherever.
		"nine Ids, all wrong":          {api.Arena{Ids: make([]api.Type, 9)}, api.ErrLimit},
		"six Params behind wrong ones": {api.Arena{Ids: []api.Type{{}, arrow(cell(0), one), arrow(cell(0), make([]api.Base, 6)...)}}, api.ErrLimit},
	}
}

// move returns the move of a text.
func move(t *testing.T, s string) api.Move {
	t.Helper()
	m, e := arena.Parse(s)
	if e != api.OK {
		t.Fatalf("Parse of %q: %v", s, e)
	}
	return m
}

// words returns the texts of moves with blanks between.
func words(t *testing.T, l []api.Move) string {
	t.Helper()
	var out []string
	for _, m := range l {
		s, e := arena.Text(m)
		if e != api.OK {
			t.Fatalf("Text of %v: %v", m, e)
		}
		out = append(out, s)
	}
	return strings.Join(out, " ")
}

// show returns the text of an arena.
func show(t *testing.T, a api.Arena) string {
	t.Helper()
	s, e := arena.Show(a)
	if e != api.OK {
		t.Fatalf("Show of %v: %v", a, e)
	}
	return s
}

// movesOf returns the moves of an arena.
func movesOf(t *testing.T, a api.Arena) []api.Move {
	t.Helper()
	l, e := arena.Moves(a)
	if e != api.OK {
		t.Fatalf("Moves of %v: %v", a, e)
	}
	return l
}

func sameType(x, y api.Type) bool { return slices.Equal(x.Params, y.Params) && x.Result == y.Result }

func sameArena(x, y api.Arena) bool {
	return slices.EqualFunc(x.Ids, y.Ids, sameType) && x.Root == y.Root && x.Jumps == y.Jumps
}
