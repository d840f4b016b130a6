package arena_test

import (
	"math"
	"slices"
	"strings"
	"testing"

	"riposte/api"
	"riposte/arena"
)

// P4.1: the errors of arenas, and what is right.
func TestCheck(t *testing.T) {
	for what, x := range badArenas() {
		if e := arena.Check(x.a); e != x.e {
			t.Errorf("Check of %s: %v, not %v", what, e, x.e)
		}
	}
	for _, a := range arenas(3, 300) {
		if e := arena.Check(a); e != api.OK {
			t.Errorf("Check of %v: %v", a, e)
		}
	}
}

// P4.1 and R7: each limit can be reached, for each base type of an arena.
func TestSizes(t *testing.T) {
	for _, isCell := range []bool{false, true} {
		for _, n := range []int{math.MinInt, -1, 0, 1, 2, 63, 64, 65, math.MaxInt} {
			want := api.ErrForm
			if n >= 1 && n <= 64 {
				want = api.OK
			}
			b := api.Base{Cell: isCell, N: n}
			for _, a := range []api.Arena{{Root: b}, {Ids: []api.Type{plain(b)}, Root: integer(1)}, {Ids: []api.Type{plain(integer(2)), arrow(integer(1), cell(3), b)}, Root: integer(1)}} {
				if e := arena.Check(a); e != want {
					t.Errorf("Check of %v: %v", a, e)
				}
			}
		}
	}
	if e := arena.Check(api.Arena{Ids: []api.Type{arrow(cell(2), integer(2))}, Root: integer(1)}); e != api.ErrForm {
		t.Errorf("a cell with params: %v", e)
	}
	if e := arena.Check(api.Arena{Ids: []api.Type{{Params: []api.Base{}, Result: cell(2)}}, Root: integer(1)}); e != api.OK {
		t.Errorf("a cell with an empty list of params: %v", e)
	}
}

// P4.2: the moves of the chapter's examples, and of others.
func TestMoves(t *testing.T) {
	for _, x := range []struct {
		a api.Arena
		s string
	}{
		{example(), "0? 0!0 0!1 1? 1!* 1!0 1.1? 1.1!* 1.1!0 1.1!1 1.1!2 1.2? 1.2=0 1.2=1 1.2!* 1.2!0 1.2!1 2? 2=0 2=1 2!0 2!1"},
		{jumping(example()), "0? 0!* 0!0 0!1 1? 1!* 1!0 1.1? 1.1!* 1.1!0 1.1!1 1.1!2 1.2? 1.2=0 1.2=1 1.2!* 1.2!0 1.2!1 2? 2=0 2=1 2!* 2!0 2!1"},
		{api.Arena{Root: integer(1)}, "0? 0!0"},
		{api.Arena{Root: integer(1), Jumps: true}, "0? 0!* 0!0"},
		{api.Arena{Root: cell(3)}, "0? 0=0 0=1 0=2 0!0 0!1 0!2"},
		{api.Arena{Root: cell(1), Jumps: true}, "0? 0=0 0!* 0!0"},
		// What DOC.md's example 4 says.
		{api.Arena{Ids: []api.Type{arrow(integer(1), integer(2)), plain(integer(2))}, Root: integer(2)}, "0? 0!0 0!1 1? 1!* 1!0 1.1? 1.1!* 1.1!0 1.1!1 2? 2!0 2!1"},
	} {
		if l, e := arena.Moves(x.a); e != api.OK || words(t, l) != x.s {
			t.Errorf("Moves of %v: %s, %v", x.a, words(t, l), e)
		}
	}
	// A cell of 64 has 1 + 64 questions and 1 + 64 answers; an int of 64 has 1 question and 1 + 64 answers.
	if l, e := arena.Moves(greatest()); len(l) != 130+8*(66+5*130) || e != api.OK {
		t.Errorf("Moves of the greatest arena: %d, %v", len(l), e)
	}
}

// P4.3 to P4.5: the chapter's examples, and others.
func TestQuestions(t *testing.T) {
	plainIds := "1? 2? 2=0 2=1"
	for _, x := range []struct {
		a          api.Arena
		q, answers string
		under      string
		other      bool
	}{
		{example(), "0?", "0!0 0!1", plainIds, true},
		{example(), "1?", "1!* 1!0", "1.1? 1.2? 1.2=0 1.2=1", false},
		{example(), "1.1?", "1.1!* 1.1!0 1.1!1 1.1!2", plainIds, true},
		{example(), "1.2?", "1.2!* 1.2!0 1.2!1", plainIds, true},
		{example(), "1.2=0", "1.2!* 1.2!0", plainIds, true},
		{example(), "1.2=1", "1.2!* 1.2!0", plainIds, true},
		{example(), "2?", "2!0 2!1", "", false},
		{example(), "2=1", "2!0", "", false},
		{jumping(example()), "0?", "0!* 0!0 0!1", plainIds, true},
		{jumping(example()), "2=1", "2!* 2!0", "", false},
		{api.Arena{Root: cell(2)}, "0=1", "0!0", "", true},
		{api.Arena{Root: cell(2), Jumps: true}, "0=1", "0!* 0!0", "", true},
	} {
		q := move(t, x.q)
		if l, e := arena.Answers(x.a, q); e != api.OK || words(t, l) != x.answers {
			t.Errorf("Answers of %s: %s, %v", x.q, words(t, l), e)
		}
		if l, e := arena.Under(x.a, q); e != api.OK || words(t, l) != x.under {
			t.Errorf("Under of %s: %s, %v", x.q, words(t, l), e)
		}
		if other, e := arena.IsOther(x.a, q); e != api.OK || other != x.other {
			t.Errorf("IsOther of %s: %v, %v", x.q, other, e)
		}
	}
}

// P4.3 to P4.5: answers, which answer nothing and allow nothing.
func TestAnswersAsQuestions(t *testing.T) {
	for s, want := range map[string]bool{"0!0": false, "0!1": false, "0!*": false, "1!*": true, "1!0": true, "1.1!*": false, "1.1!2": false, "1.2!0": false, "2!*": true, "2!1": true} {
		m := move(t, s)
		other, e := arena.IsOther(jumping(example()), m)
		answers, f := arena.Answers(jumping(example()), m)
		under, g := arena.Under(jumping(example()), m)
		if e != api.OK || other != want || f != api.ErrArg || g != api.ErrArg || len(answers) > 0 || len(under) > 0 {
			t.Errorf("%s: %v, %v; %v, %v; %v, %v", s, other, e, answers, f, under, g)
		}
	}
}

// P4.2 to P4.5: what is no move, which Has tells without an error, and ErrNone before ErrArg.
func TestNoMoves(t *testing.T) {
	var l []api.Move
	for _, s := range strings.Fields("0!* 0!2 0=0 0.1? 0.1!0 1!1 1=0 1.1=0 1.1!3 1.2=2 1.2!2 1.3? 2!* 2!2 2=2 2.1? 2.1!* 3? 3!0 3!* 9223372036854775807?") {
		l = append(l, move(t, s))
	}
	l = append(l, api.Move{}, api.Move{Kind: 4}, api.Move{Kind: 255}, api.Move{Kind: api.MoveAsk, N: 1}, api.Move{Kind: api.MoveAsk, N: api.Esc},
		api.Move{Kind: api.MoveTell, N: -2}, api.Move{Id: 1, Kind: api.MoveTell, N: math.MinInt}, api.Move{Id: 2, Kind: api.MovePut, N: api.Esc},
		api.Move{Id: -1, Kind: api.MoveAsk}, api.Move{Id: 1, Arg: -1, Kind: api.MoveAsk}, api.Move{Arg: -1, Kind: api.MoveTell}, api.Move{Id: math.MinInt, Arg: math.MinInt, Kind: api.MoveAsk})
	for _, m := range l {
		has, e := arena.Has(example(), m)
		other, f := arena.IsOther(example(), m)
		answers, g := arena.Answers(example(), m)
		under, h := arena.Under(example(), m)
		if has || e != api.OK || other || f != api.ErrNone || len(answers) > 0 || g != api.ErrNone || len(under) > 0 || h != api.ErrNone {
			t.Errorf("%v: %v, %v; %v, %v; %v, %v; %v, %v", m, has, e, other, f, answers, g, under, h)
		}
	}
}

// P4.7: an order by Id, Arg, Kind, N, of any moves.
func TestLess(t *testing.T) {
	numbers := []int{math.MinInt, -2, -1, 0, 1, 2, 63, math.MaxInt}
	var l []api.Move
	for _, id := range numbers {
		for _, arg := range numbers {
			for _, kind := range []uint8{0, 1, 2, 3, 4, 255} {
				for _, n := range numbers {
					l = append(l, api.Move{Id: id, Arg: arg, Kind: kind, N: n})
				}
			}
		}
	}
	r := source(4)
	for i := range l {
		for _, k := range []int{i, max(i-1, 0), min(i+1, len(l)-1), r.Intn(len(l)), r.Intn(len(l))} {
			if arena.Less(l[i], l[k]) != (i < k) {
				t.Fatalf("Less of %v, %v: %v", l[i], l[k], i >= k)
			}
		}
	}
	words := strings.Fields("0? 0=1 0!* 0!0 0!1 0.1? 1? 1=0 1=10 1!* 1!9 1!10 1.1? 1.1!0 1.2? 1.10? 2? 10?")
	if !slices.IsSortedFunc(words, func(x, y string) int {
		if arena.Less(move(t, x), move(t, y)) {
			return -1
		}
		return 1
	}) {
		t.Error("the moves of texts do not ascend")
	}
}
