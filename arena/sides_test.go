package arena_test

import (
	"slices"
	"testing"

	"riposte/api"
	"riposte/arena"
)

// P4.10: what answers a question, and what it allows, is of the side that did not ask it.
func TestTwoSides(t *testing.T) {
	for i, a := range arenas(7, 40) {
		l := movesOf(t, a)
		for k, m := range l {
			other, e := arena.IsOther(a, m)
			if e != api.OK {
				t.Fatalf("IsOther of %v: %v", m, e)
			}
			if m.Kind == api.MoveTell || len(l) > 500 && (k+i)%7 > 0 {
				continue
			}
			answers, _ := arena.Answers(a, m)
			under, _ := arena.Under(a, m)
			for _, n := range slices.Concat(answers, under) {
				if back, e := arena.IsOther(a, n); e != api.OK || back == other {
					t.Fatalf("%v after %v: %v, %v", n, m, back, e)
				}
			}
		}
	}
}

// P4.2, P4.4, P4.5 and P4.11: lists ascend, and have nothing twice; each answer is one of a question of its place.
func TestAll(t *testing.T) {
	for _, a := range arenas(8, 40) {
		l := movesOf(t, a)
		var made []api.Move
		for _, m := range l {
			answers, e := arena.Answers(a, m)
			if e == api.ErrArg {
				continue
			}
			under, _ := arena.Under(a, m)
			ascends(t, answers)
			ascends(t, under)
			made = append(append(made, m), answers...)
			for _, n := range answers {
				if n.Kind != api.MoveTell || n.Id != m.Id || n.Arg != m.Arg {
					t.Fatalf("%v answers %v", n, m)
				}
			}
			for _, n := range under {
				if _, e := arena.Answers(a, n); e != api.OK {
					t.Fatalf("%v is allowed by %v, and no question", n, m)
				}
			}
		}
		ascends(t, l)
		for _, m := range made {
			if _, ok := slices.BinarySearchFunc(l, m, compare); !ok {
				t.Fatalf("%v is no move of %v", m, a)
			}
		}
		for _, m := range l {
			if !slices.Contains(made, m) {
				t.Fatalf("%v of %v is no question, and answers none", m, a)
			}
		}
	}
}

func compare(x, y api.Move) int {
	switch {
	case arena.Less(x, y):
		return -1
	case arena.Less(y, x):
		return 1
	}
	return 0
}

func ascends(t *testing.T, l []api.Move) {
	t.Helper()
	for i := 1; i < len(l); i++ {
		if !arena.Less(l[i-1], l[i]) {
			t.Fatalf("%v does not come before %v", l[i-1], l[i])
		}
	}
}

// P4.12: of two different moves one comes first; orders go on.
func TestOrder(t *testing.T) {
	r := source(9)
	some := func() api.Move {
		return api.Move{Id: r.Intn(3) - 1, Arg: r.Intn(3) - 1, Kind: uint8(r.Intn(4)), N: r.Intn(4) - 2}
	}
	for range 200000 {
		x, y, z := some(), some(), some()
		if x != y && arena.Less(x, y) == arena.Less(y, x) || arena.Less(x, x) {
			t.Fatalf("Less of %v, %v", x, y)
		}
		if arena.Less(x, y) && arena.Less(y, z) && !arena.Less(x, z) {
			t.Fatalf("Less of %v, %v, %v", x, y, z)
		}
	}
}
