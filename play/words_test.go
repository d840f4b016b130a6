package play_test

import (
	"slices"
	"strings"
	"testing"

	"riposte/api"
	"riposte/arena"
	"riposte/play"
)

// P5.1: words that are legal, and moves that cannot come, by each of the rules.
func TestCheck(t *testing.T) {
	for _, x := range []struct {
		a, w string
		at   int // -1: the word is legal
	}{
		{plain, "", -1}, {plain, "0?", -1}, {plain, said, -1}, {plain, said + " 0!1", -1},
		// 1: after the empty word.
		{plain, "1?", 0}, {plain, "0!1", 0}, {plain, "1.1?", 0}, {plain, "0=0", 0}, {plain, "2!0", 0}, {jumps, "0!*", 0}, {"cell 3", "0=2", -1}, {"cell 3", "0=3", 0}, {"cell 3", "0!0", 0},
		// 2: after a complete word.
		{plain, "0? 0!1 0?", 2}, {plain, "0? 0!1 0!1", 2}, {plain, "0? 0!1 1?", 2}, {plain, "0? 0!1 1!0", 2}, {jumps, "0? 2? 2!* 0!* 0!*", 4},
		// 3: the program's turn.
		{plain, "0? 0?", 1}, {plain, "0? 0!2", 1}, {plain, "0? 1!0", 1}, {plain, "0? 1.1?", 1}, {plain, "0? 1.1!0", 1}, {plain, "0? 0!*", 1}, {jumps, "0? 0!*", 1}, {plain, "0? 2=1", -1}, {plain, "0? 3?", 1},
		{plain, "0? 1? 1.1? 0!1", 3}, {plain, "0? 1? 1.1? 1!0", 3}, {plain, "0? 1? 1.1? 1.2!0", 3}, {plain, "0? 1? 1.1? 1.2?", 3}, {plain, "0? 1? 1.1? 1.1!3", 3}, {plain, "0? 1? 1.1? 1?", -1}, {plain, "0? 1? 1.1? 1.1!*", -1},
		{plain, "0? 1? 1.2? 1.2!1", -1}, {plain, "0? 1? 1.2=1 1.2!0", -1}, {plain, "0? 1? 1.2=1 1.2!1", 3}, {plain, "0? 1? 1.2=1 1.2!*", -1}, {plain, "0? 1? 1.2? 1.2!2", 3},
		{"cell 3", "0=2 0!0", -1}, {"cell 3", "0=2 0!1", 1}, {"cell 3", "0? 0!2", -1},
		// 4: the other one's turn.
		{plain, "0? 1? 2?", 2}, {plain, "0? 1? 0!0", 2}, {plain, "0? 1? 0?", 2}, {plain, "0? 1? 2.1?", 2}, {plain, "0? 1? 1?", 2}, {plain, "0? 1? 1!1", 2}, {plain, "0? 1? 1!*", 2}, {jumps, "0? 1? 1!*", -1}, {plain, "0? 2? 2!*", 2}, {jumps, "0? 2? 2!*", -1}, {jumps, "0? 2=0 2!*", -1}, {plain, "0? 1? 1.3?", 2},
		{plain, "0? 2? 1.1?", 2}, {plain, "0? 2=1 2!1", 2}, {plain, "0? 2=1 2!0", -1}, {plain, "0? 2? 2!1", -1}, {plain, "0? 2? 2!2", 2},
		{"int 1; (int 1) -> int 1; (int 1) -> int 1", "0? 1? 2.1?", 2}, {"int 1; (int 1) -> int 1; (int 1) -> int 1", "0? 2? 1.1?", 2},
		// 5: forced moves.
		{plain, "0? 1? 1.1? 1.1!* 1!*", -1}, {plain, "0? 1? 1.1? 1.1!* 1!0", 4}, {plain, "0? 1? 1.1? 1.1!* 1.2?", 4}, {plain, "0? 1? 1.1? 1.1!* 1.1!*", 4},
		{plain, "0? 1? 1.1? 1.1!* 1!* 1!*", 5}, {plain, "0? 1? 1.1? 1.1!* 1!* 1?", -1}, {plain, "0? 1? 1.1? 1.1!* 1!* 0!*", 5}, {jumps, "0? 1? 1.1? 1.1!* 1!* 0!*", 5}, {jumps, "0? 1? 1.1? 1.1!* 1!* 0!1", -1},
		{plain, "0? 1? 1.1? 1? 1.2? 1.2!* 1!* 1.1!* 1!* 0!0", -1}, {plain, "0? 1? 1.1? 1? 1.2? 1.2!* 1!* 1.1!0 1.2?", -1},
		// 6: lost words.
		{jumps, "0? 1? 1!* 0!*", -1}, {jumps, "0? 1? 1!* 0!1", 3}, {jumps, "0? 1? 1!* 2?", 3}, {jumps, "0? 1? 1.1? 2? 2!* 1.1!* 1!* 0!*", -1}, {jumps, "0? 1? 1.1? 2? 2!* 1.1!0", 5}, {jumps, "0? 1? 1.1? 2? 2!* 0!*", 5}, {jumps, "0? 1? 1.1? 2? 2!* 1.1!* 1!0", 6}, {jumps, "0? 1? 1.1? 2? 2!* 1.1!* 1!* 0!0", 7}, {jumps, "0? 1? 1.1? 2? 2!* 1.1!* 1!* 2?", 7},
		{jumps, "0? 1? 1.1? 1.1!* 1!* 2? 2!* 0!*", -1}, {jumps, "0? 1? 1.1? 1.1!* 1!* 2? 2!* 0!0", 7},
		// The chapter's examples.
		{plain, "0? 1? 2?", 2}, {plain, "0? 1? 1!*", 2}, {jumps, "0? 1? 1.1? 2? 2!* 1.1!*", -1},
	} {
		want := api.OK
		if x.at >= 0 {
			want = api.ErrOdd
		}
		if at, e := play.Check(place(t, x.a), word(t, x.w)); at != max(x.at, 0) || e != want {
			t.Errorf("Check of %s in %s: %d, %v", x.w, x.a, at, e)
		}
		if _, e := play.Stand(place(t, x.a), word(t, x.w)); e != want {
			t.Errorf("Stand of %s in %s: %v", x.w, x.a, e)
		}
	}
}

// P5.2 and P5.3: where words stand, and what can come then.
func TestStand(t *testing.T) {
	for _, x := range []struct {
		a, w string
		want api.Stand
		next string
	}{
		{plain, "", api.Stand{Turn: api.TurnOther}, "0?"},
		{"cell 2", "", api.Stand{Turn: api.TurnOther}, "0? 0=0 0=1"},
		{"cell 2; jumps", "0=1", api.Stand{Turn: api.TurnProgram, Open: []int{0}}, "0!0"},
		{"cell 2; jumps", "0?", api.Stand{Turn: api.TurnProgram, Open: []int{0}}, "0!0 0!1"},
		{plain, said, api.Stand{Turn: api.TurnProgram, Open: []int{0}}, "0!0 0!1 1? 2? 2=0 2=1"},
		{plain, said + " 0!0", api.Stand{Turn: api.TurnOver}, ""},
		{plain, "0? 1?", api.Stand{Turn: api.TurnOther, Open: []int{0, 1}}, "1!0 1.1? 1.2? 1.2=0 1.2=1"},
		{jumps, "0? 1?", api.Stand{Turn: api.TurnOther, Open: []int{0, 1}}, "1!* 1!0 1.1? 1.2? 1.2=0 1.2=1"},
		{plain, "0? 1? 1.1?", api.Stand{Turn: api.TurnProgram, Open: []int{0, 1, 2}}, "1? 1.1!* 1.1!0 1.1!1 1.1!2 2? 2=0 2=1"},
		{plain, "0? 1? 1.2=1", api.Stand{Turn: api.TurnProgram, Open: []int{0, 1, 2}}, "1? 1.2!* 1.2!0 2? 2=0 2=1"},
		{plain, "0? 2=1", api.Stand{Turn: api.TurnOther, Open: []int{0, 1}}, "2!0"},
		{jumps, "0? 2=1", api.Stand{Turn: api.TurnOther, Open: []int{0, 1}}, "2!* 2!0"},
		{plain, "0? 1? 1.1? 1.1!*", api.Stand{Turn: api.TurnOther, Open: []int{0, 1}, Forced: true}, "1!*"},
		{plain, "0? 1? 1.1? 1.1!* 1!*", api.Stand{Turn: api.TurnProgram, Open: []int{0}}, "0!0 0!1 1? 2? 2=0 2=1"},
		{plain, "0? 1? 1.1? 1? 1.2? 1.2!* 1!*", api.Stand{Turn: api.TurnProgram, Open: []int{0, 1, 2}}, "1? 1.1!* 1.1!0 1.1!1 1.1!2 2? 2=0 2=1"},
		{jumps, "0? 1? 1.1? 2? 2!*", api.Stand{Turn: api.TurnProgram, Open: []int{0, 1, 2}, Lost: true}, "1.1!*"},
		{jumps, "0? 1? 1.1? 2? 2!* 1.1!*", api.Stand{Turn: api.TurnOther, Open: []int{0, 1}, Forced: true, Lost: true}, "1!*"},
		{jumps, "0? 1? 1.1? 2? 2!* 1.1!* 1!*", api.Stand{Turn: api.TurnProgram, Open: []int{0}, Lost: true}, "0!*"},
		{jumps, "0? 1? 1.1? 2? 2!* 1.1!* 1!* 0!*", api.Stand{Turn: api.TurnOver, Lost: true}, ""},
		{jumps, "0? 1? 1!*", api.Stand{Turn: api.TurnProgram, Open: []int{0}, Lost: true}, "0!*"},
		// What DOC.md's example 5 says.
		{"int 2; (int 2) -> int 1; int 2", "0? 1? 1.1? 2? 2!1 1.1!*", api.Stand{Turn: api.TurnOther, Open: []int{0, 1}, Forced: true}, "1!*"},
	} {
		a, w := place(t, x.a), word(t, x.w)
		s, e := play.Stand(a, w)
		if e != api.OK || s.Turn != x.want.Turn || !slices.Equal(s.Open, x.want.Open) || s.Forced != x.want.Forced || s.Lost != x.want.Lost {
			t.Errorf("Stand of %s: %v, %v, not %v", x.w, s, e, x.want)
		}
		if l, e := play.Next(a, w); e != api.OK || text(t, l) != x.next {
			t.Errorf("Next of %s: %s, %v, not %s", x.w, text(t, l), e, x.next)
		}
	}
}

// P5.3: Next where the word has MaxWord moves, and in the arena with most moves.
func TestNextOfGreat(t *testing.T) {
	long := word(t, "0?"+strings.Repeat(" 2? 2!0", 199)+" 1?")
	if len(long) != api.MaxWord {
		t.Fatalf("%d moves", len(long))
	}
	if l, e := play.Next(place(t, plain), long); e != api.OK || text(t, l) != "1!0 1.1? 1.2? 1.2=0 1.2=1" {
		t.Errorf("Next: %v, %v", l, e)
	}
	c := api.Base{Cell: true, N: api.MaxSize}
	k := api.Type{Params: slices.Repeat([]api.Base{c}, api.MaxParams), Result: api.Base{N: api.MaxSize}}
	great := api.Arena{Ids: slices.Repeat([]api.Type{k}, api.MaxIds), Root: c, Jumps: true}
	for s, want := range map[string]int{"": 65, "0?": 64 + 8, "0=63": 1 + 8, "0? 8?": 65 + 5*65, "0? 8? 8.5?": 65 + 8, "0? 8? 8.5=63": 2 + 8} {
		w := word(t, s)
		l, e := play.Next(great, w)
		if e != api.OK || len(l) != want || !slices.Equal(l, modelNext(great, w)) {
			t.Errorf("Next of %q: %d moves, %v, not %d", s, len(l), e, want)
		}
	}
}

// P5.4: partners and justifiers.
func TestPairs(t *testing.T) {
	for _, x := range []struct {
		a, w                 string
		partners, justifiers []int
	}{
		{plain, "", nil, nil},
		{plain, "0?", []int{-1}, []int{-1}},
		{plain, "0? 0!1", []int{1, 0}, []int{-1, 0}},
		{plain, said, []int{-1, 8, 5, 4, 3, 2, 7, 6, 1}, []int{-1, 0, 1, 0, 3, 2, 1, 6, 1}},
		// An identifier that is asked in its own argument: its question hangs on 0, 0, that of the argument on the last open one.
		{plain, "0? 1? 1.1? 1? 1.2? 1.2!1", []int{-1, -1, -1, -1, 5, 4}, []int{-1, 0, 1, 0, 3, 4}},
		{plain, "0? 1? 1.1? 1? 1!0 1.1!0 1.2? 2=1", []int{-1, -1, 5, 4, 3, 2, -1, -1}, []int{-1, 0, 1, 0, 3, 2, 1, 0}},
		{plain, "0? 1? 1.1? 1.1!* 1!* 2?", []int{-1, 4, 3, 2, 1, -1}, []int{-1, 0, 1, 2, 1, 0}},
		{jumps, "0? 1? 1.1? 2? 2!* 1.1!* 1!* 0!*", []int{7, 6, 5, 4, 3, 2, 1, 0}, []int{-1, 0, 1, 0, 3, 2, 1, 0}},
	} {
		a, w := place(t, x.a), word(t, x.w)
		if l, e := play.Partners(a, w); e != api.OK || !slices.Equal(l, x.partners) {
			t.Errorf("Partners of %s: %v, %v", x.w, l, e)
		}
		if l, e := play.Justifiers(a, w); e != api.OK || !slices.Equal(l, x.justifiers) {
			t.Errorf("Justifiers of %s: %v, %v", x.w, l, e)
		}
	}
}

// P5.5: views of both sides.
func TestViews(t *testing.T) {
	jump := "0? 2? 2!1 1? 1.1? 2? 2!0 1.1!* 1!* 2? 2!1"
	lost := "0? 2? 2!0 1? 1.1? 2? 2!* 1.1!* 1!* 0!*"
	for _, x := range []struct {
		a, w        string
		n           int
		view, sight []int
	}{
		{plain, said, 0, nil, nil}, {plain, said, 1, []int{0}, nil}, {plain, said, 2, nil, []int{0, 1}}, {plain, said, 3, []int{0, 1, 2}, nil}, {plain, said, 4, nil, []int{0, 3}}, {plain, said, 5, []int{0, 1, 2, 3, 4}, nil}, {plain, said, 6, nil, []int{0, 1, 2, 5}}, {plain, said, 7, []int{0, 1, 6}, nil}, {plain, said, 8, nil, []int{0, 1, 2, 5, 6, 7}}, {plain, said, 9, []int{0, 1, 8}, nil},
		{plain, said + " 0!1", 10, nil, []int{0, 9}},
		// What was said for an argument that is asked again is gone, but not what led to a jump.
		{plain, "0? 1? 1.1? 1.1!0 1.1? 1.1!* 1!*", 7, []int{0, 1, 4, 5, 6}, nil},
		{plain, "0? 1? 1.1? 1.1!* 1!*", 5, []int{0, 1, 2, 3, 4}, nil}, {plain, "0? 1? 1.1? 1.1!*", 4, nil, []int{0, 1, 2, 3}},
		{plain, jump, 9, []int{0, 1, 2, 3, 4, 5, 6, 7, 8}, nil}, {plain, jump, 11, []int{0, 1, 2, 3, 4, 5, 6, 7, 8, 9, 10}, nil}, {plain, jump, 8, nil, []int{0, 3, 4, 7}}, {plain, jump, 10, nil, []int{0, 9}},
		{jumps, lost, 7, []int{0, 1, 2, 3, 4, 5, 6}, nil}, {jumps, lost, 8, nil, []int{0, 3, 4, 7}}, {jumps, lost, 9, []int{0, 1, 2, 3, 4, 5, 6, 7, 8}, nil}, {jumps, lost, 10, nil, []int{0, 9}},
		{"cell 2", "0=1 0!0", 1, []int{0}, nil}, {"cell 2", "0=1 0!0", 2, nil, []int{0, 1}},
		// What DOC.md's example 5 says.
		{"int 2; (int 2) -> int 1; int 2", "0? 1? 1.1? 2? 2!1 1.1!1 1!0 0!1", 7, []int{0, 1, 6}, nil},
	} {
		a, w := place(t, x.a), word(t, x.w)[:x.n]
		e1, e2 := api.OK, api.OK
		if x.view == nil {
			e1 = api.ErrState
		}
		if x.sight == nil {
			e2 = api.ErrState
		}
		if l, e := play.View(a, w); e != e1 || !slices.Equal(l, x.view) {
			t.Errorf("View of %s: %v, %v", text(t, w), l, e)
		}
		if l, e := play.Sight(a, w); e != e2 || !slices.Equal(l, x.sight) {
			t.Errorf("Sight of %s: %v, %v", text(t, w), l, e)
		}
	}
}

// P5.6: parts.
func TestPart(t *testing.T) {
	for _, x := range []struct {
		ids  []int
		want string
	}{
		{nil, ""}, {[]int{}, ""}, {[]int{0}, "0?"}, {[]int{1}, "1? 1.1? 1.1!2 1.2=1 1.2!0 1!0"}, {[]int{2}, "2? 2!1"}, {[]int{3, -1, 9}, ""},
		{[]int{2, 0}, "0? 2? 2!1"}, {[]int{0, 1, 2}, said}, {[]int{2, 1, 2, 0, 77, 0}, said},
	} {
		if w, e := play.Part(place(t, plain), word(t, said), x.ids); e != api.OK || text(t, w) != x.want {
			t.Errorf("Part of %v: %s, %v", x.ids, text(t, w), e)
		}
	}
	for _, x := range sayings(t, 5, 5, 30) {
		for ids := range 16 {
			var l []int
			for id := range 4 {
				if ids>>id&1 > 0 {
					l = append(l, id)
				}
			}
			want := those(x.w, func(m api.Move) bool { return slices.Contains(l, m.Id) })
			if w, e := play.Part(x.Arena, x.w, l); e != api.OK || !slices.Equal(w, want) {
				t.Fatalf("Part of %v, %v: %v, %v", x.w, l, w, e)
			}
		}
	}
}

// P5.7: how many questions are open.
func TestDepth(t *testing.T) {
	for s, want := range map[string]int{"": 0, "0?": 1, "0? 0!1": 1, said: 4, said + " 0!0": 4, "0? 2? 2!1 2? 2!0": 2, "0? 1? 1.1? 1? 1.1? 1.1!0": 5, "0?" + strings.Repeat(" 1? 1.1?", 199): 399} {
		if n, e := play.Depth(place(t, plain), word(t, s)); e != api.OK || n != want {
			t.Errorf("Depth of %s: %d, %v", s, n, e)
		}
	}
}

// P5.8: closes.
func TestClose(t *testing.T) {
	for _, x := range []struct{ a, w, rest string }{
		{plain, "", "0? 0!0"}, {"cell 3", "", "0? 0!0"}, {"cell 3", "0=2", "0!0"}, {plain, "0? 0!1", ""}, {plain, said + " 0!1", ""},
		{plain, "0?", "0!0"}, {plain, "0? 1? 1.1? 2?", "2!0 1.1!0 1!0 0!0"}, {plain, "0? 1? 1.2=1 2=1", "2!0 1.2!0 1!0 0!0"}, {plain, said, "0!0"},
		// A jump out of an argument leaves one question, and no more.
		{plain, "0? 1? 1.1? 1.1!*", "1!* 0!0"}, {plain, "0? 1? 1.1? 1? 1.2? 1.2!*", "1!* 1.1!0 1!0 0!0"}, {jumps, "0? 1? 1.1? 1? 1.2? 1.2!*", "1!* 1.1!0 1!0 0!0"},
		{jumps, "0? 1? 1.1? 2?", "2!0 1.1!0 1!0 0!0"}, {jumps, "0? 1? 1.1? 2? 2!*", "1.1!* 1!* 0!*"}, {jumps, "0? 1? 1.1? 2? 2!* 1.1!*", "1!* 0!*"}, {jumps, "0? 1? 1!*", "0!*"}, {jumps, "0? 1? 1!* 0!*", ""},
	} {
		want := strings.TrimSpace(x.w + " " + x.rest)
		if w, e := play.Close(place(t, x.a), word(t, x.w)); e != api.OK || text(t, w) != want {
			t.Errorf("Close of %s: %s, %v", x.w, text(t, w), e)
		}
	}
}

// P5.8 and R7: the longest closes, and those that are too long.
func TestLongClose(t *testing.T) {
	a := place(t, plain)
	deep := func(n int) string { return "0?" + strings.Repeat(" 1? 1.1?", n) }
	for _, x := range []struct {
		w    string
		many int // 0: ErrLimit
	}{
		{deep(99) + " 2?", 400}, {deep(99) + " 2? 2!1", 400}, {deep(99) + " 2? 2!1 2?", 0}, {deep(100), 0}, {deep(199) + " 1?", 0}, {deep(99) + " 1.1!*", 398}, {deep(100) + " 1.1!*", 0}, {deep(100) + " 1.1!* 1!*", 0},
		{"0?" + strings.Repeat(" 2? 2!0", 199), 400}, {"0?" + strings.Repeat(" 2? 2!0", 199) + " 0!1", 400}, {"0?" + strings.Repeat(" 2? 2!0", 199) + " 2?", 0},
	} {
		w, e := play.Close(a, word(t, x.w))
		want := api.OK
		if x.many == 0 {
			want = api.ErrLimit
		}
		if e != want || len(w) != x.many {
			t.Errorf("Close of a word: %d moves, %v, not %d", len(w), e, x.many)
		}
	}
}

// P5.8: the longest legal beginnings.
func TestCut(t *testing.T) {
	for _, x := range []struct{ a, w, want string }{
		{plain, "", ""}, {plain, "1?", ""}, {plain, said, said}, {plain, said + " 1.1?", said}, {plain, "0? 1? 2? 1!0", "0? 1?"}, {plain, "0? 0!1 0? 0!1", "0? 0!1"},
		{plain, "0? 1? 1.1? 1.1!* 1!0", "0? 1? 1.1? 1.1!*"}, {jumps, "0? 1? 1!* 0!0", "0? 1? 1!*"}, {plain, "0? 1? 1!* 0!0", "0? 1?"},
	} {
		if w, e := play.Cut(place(t, x.a), word(t, x.w)); e != api.OK || text(t, w) != x.want {
			t.Errorf("Cut of %s: %s, %v", x.w, text(t, w), e)
		}
	}
}

// The moves that Next returns ascend, for the longest lists, too.
func TestNextAscends(t *testing.T) {
	for _, x := range sayings(t, 6, 5, 30) {
		l, e := play.Next(x.Arena, x.w)
		if e != api.OK {
			t.Fatal(e)
		}
		for n := 1; n < len(l); n++ {
			if !arena.Less(l[n-1], l[n]) {
				t.Fatalf("Next of %v: %v", x.w, l)
			}
		}
	}
}
