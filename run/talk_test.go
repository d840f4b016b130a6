package run_test

import (
	"slices"
	"testing"

	"riposte/api"
	"riposte/arena"
	"riposte/play"
	"riposte/run"
)

// P6.1: words, and what is odd in them.
func TestWords(t *testing.T) {
	checkTurns(t, []turned{
		{plus, "", nil, api.StateAsks, "", 0, 0},
		{plus, "1?", nil, api.StateOdd, "", 0, 0},
		{plus, "0!0", nil, api.StateOdd, "", 0, 0},
		{plus, "0? 1?", nil, api.StateAsks, "", 2, 2},
		{plus, "0? 1? 1?", nil, api.StateOdd, "", 2, 2},
		{plus, "0? 1? 0!0", nil, api.StateOdd, "", 2, 2},
		{plus, "0? 1? 1!3 0!0", nil, api.StateOdd, "", 2, 2},
		{plus, "0? 1? 1!2 0!0", nil, api.StateOver, "", 4, 3},
		{plus, "0? 1? 1!2 0!1", nil, api.StateOdd, "", 3, 3},
		{plus, "0? 1? 1!2 0!0 0?", nil, api.StateOdd, "", 4, 3},
		{plus, "0? 1? 1!2 0!0 7?", nil, api.StateOdd, "", 4, 3},
		{plus, "0? 1? 1!*", nil, api.StateOdd, "", 2, 2},
		{plus, "^0? 1? 1!*", nil, api.StateOver, "0!*", 3, 2},
		{plus, "^0? 1? 1!* 0!0", nil, api.StateOdd, "", 3, 2},
		{plus, "^0? 1? 1!* 0!*", nil, api.StateOver, "", 4, 2},
		{leaves, "0? 1? 1.1? 1.1!*", nil, api.StateAsks, "", 4, 3},
		{leaves, "0? 1? 1.1? 1.1!* 1!0", nil, api.StateOdd, "", 4, 3},
		{leaves, "0? 1? 1.1? 1.1!* 1.1?", nil, api.StateOdd, "", 4, 3},
		{leaves, "0? 1? 1.2?", nil, api.StateOdd, "", 2, 2},
		{chance, "0? 0!0", nil, api.StateOver, "", 2, 2},
	})
	odd := session(t, plus, "0?")
	for _, m := range []api.Move{{}, {Kind: 9}, {Id: 1, Kind: api.MoveAsk, N: 1}, {Id: -1, Kind: api.MoveAsk}, {Id: 1, Arg: 1, Kind: api.MoveAsk}} {
		if u := next(t, saying(odd, append(slices.Clone(odd.Word), m))); u.State != api.StateOdd || u.At != 1 || u.Steps != 2 {
			t.Errorf("%v: %v", m, u)
		}
		if u := next(t, saying(odd, api.Word{m})); u.State != api.StateOdd || u.At != 0 || u.Steps != 0 {
			t.Errorf("%v: %v", m, u)
		}
	}
}

// P6.1: the arena of a session.
func TestArena(t *testing.T) {
	x := jumpy(t, "import i:int 3; export n():com=skip; import j:(cell 2)->com; export m(c:cell 2,k:(bool)->int 4):int 5=0;", "1? 7?")
	a, e := run.Arena(x)
	s, _ := arena.Show(a)
	if want := "int 5; int 3; (cell 2) -> int 1; cell 2; (int 2) -> int 4; jumps"; s != want || e != api.OK {
		t.Errorf("Arena: %s, %v", s, e)
	}
	x.Export, x.Jumps = "n", false
	a, e = run.Arena(x)
	if s, _ := arena.Show(a); s != "int 1; int 3; (cell 2) -> int 1" || e != api.OK {
		t.Errorf("Arena: %s, %v", s, e)
	}
	// Nothing is executed.
	if _, e := run.Arena(session(t, loops, "0?")); e != api.OK {
		t.Errorf("Arena: %v", e)
	}
	// Imports that stand behind the export have their numbers, too.
	checkTurns(t, []turned{{"import i:int 3; export m(p:int 3):int 3=p; import j:int 2;", "0?", nil, api.StateAsks, "3?", 1, 1}})
}

// P6.1: where there is no right arena, no move can come.
func TestNoArena(t *testing.T) {
	s := "import f:(int 2)->cell 3; export m():int 3=f(1);"
	checkTurns(t, []turned{
		{s, "", nil, api.StateAsks, "", 0, 0}, {s, "0?", nil, api.StateOdd, "", 0, 0}, {s, "0? 1?", nil, api.StateOdd, "", 0, 0},
		{s, "0? 1? 1.1?", nil, api.StateOdd, "", 0, 0}, {s, "0? 1? 1.7?", nil, api.StateOdd, "", 0, 0}, {s, "^0? 1? 1!*", nil, api.StateOdd, "", 0, 0},
	})
	a, e := run.Arena(session(t, s, ""))
	if e != api.OK || len(a.Ids) != 1 || a.Ids[0].Result != cell(3) {
		t.Errorf("Arena: %v, %v", a, e)
	}
	if w, u, e := run.Talk(session(t, s, ""), []int{0, 0}); len(w) > 0 || u.State != api.StateAsks || e != api.OK {
		t.Errorf("Talk: %v, %v, %v", w, u, e)
	}
}

// P6.2: what the other one says by numbers.
func TestTalk(t *testing.T) {
	const twice = "import f:(bool)->com; export m():com=f(true);f(false);"
	for _, x := range []struct {
		s, word string
		by      []int
		want    string
		state   uint8
		last    string
	}{
		{plus, "", nil, "", api.StateAsks, ""},
		{plus, "", []int{7}, "0? 1?", api.StateAsks, "1?"},
		{plus, "0?", nil, "0? 1?", api.StateAsks, "1?"},
		{plus, "0? 1?", nil, "0? 1?", api.StateAsks, ""},
		{plus, "0? 1?", []int{4}, "0? 1? 1!1 0!2", api.StateOver, "0!2"},
		{plus, "", []int{0, 2}, "0? 1? 1!2 0!0", api.StateOver, "0!0"},
		{plus, "", []int{0, 5, 5, 5}, "0? 1? 1!2 0!0", api.StateOver, "0!0"},
		{plus, "0? 1? 1!2 0!0", []int{1}, "0? 1? 1!2 0!0", api.StateOver, ""},
		{plus, "0? 1? 1!7", []int{3}, "0? 1? 1!7", api.StateOdd, ""},
		{plus, "0? 1? 1!2 0!0 0?", []int{3}, "0? 1? 1!2 0!0 0?", api.StateOdd, ""},
		{twice, "0?", []int{1, 0, 0}, "0? 1? 1.1? 1.1!1 1!0 1? 1!0 0!0", api.StateOver, "0!0"},
		{twice, "^0?", []int{0, 2}, "0? 1? 1!* 0!*", api.StateOver, "0!*"},
		{leaves, "", []int{9, 1, 8}, "0? 1? 1.1? 1.1!* 1!* 0!0", api.StateOver, "0!0"},
		{"export m():com=hang;", "", []int{0, 0}, "0?", api.StateHangs, ""},
	} {
		y := turned{s: x.s, word: x.word}.session(t)
		w, u, e := run.Talk(y, x.by)
		if text(t, w) != x.want || u.State != x.state || text(t, u.Moves) != x.last || e != api.OK {
			t.Errorf("%s: Talk: %s, %v, %v", x.s, text(t, w), u, e)
		}
	}
}

// P6.2: Talk is what one says who asks Next, and puts both sides' moves behind the word.
func TestTalkByHand(t *testing.T) {
	r := source(2)
	for range 300 {
		x := randomSession(r)
		var by []int
		for range r.Intn(20) {
			by = append(by, r.Intn(9))
		}
		a := place(t, x)
		y, left := x, by
		u, e := run.Next(y)
		for e == api.OK && u.State == api.StateAsks && len(left) > 0 {
			w := slices.Concat(y.Word, u.Moves)
			l, _ := play.Next(a, w)
			y, left = saying(y, append(w, l[left[0]%len(l)])), left[1:]
			u, e = run.Next(y)
		}
		w, v, f := run.Talk(x, by)
		if e != f || !sameTurn(u, v) || e == api.OK && !slices.Equal(w, slices.Concat(y.Word, u.Moves)) || e != api.OK && len(w) > 0 {
			t.Fatalf("%s%v: Talk: %s, %v, %v, not %v, %v", printed(x.T), by, text(t, w), v, f, u, e)
		}
	}
}

// P6.2: the errors of Talk, and its limits.
func TestTalkErrors(t *testing.T) {
	x := session(t, plus, "")
	broken := session(t, "export m():com=1;", "")
	endless := session(t, "import i:com; export m():com=while true do i;", "0?")
	full := saying(endless, append(slices.Clone(endless.Word), slices.Repeat(word(t, "1? 1!0"), 199)...))
	filled := saying(full, append(slices.Clone(full.Word), word(t, "1?")...))
	nearly := saying(full, full.Word[:397])
	for i, y := range []struct {
		x    api.Session
		by   []int
		e    api.Errno
		many int
	}{
		{x, []int{0, -1}, api.ErrRange, 0}, {x, make([]int, 61), api.ErrLimit, 0}, {x, slices.Repeat([]int{-1}, 61), api.ErrLimit, 0}, {x, make([]int, 60), api.OK, 4},
		{saying(x, make(api.Word, 401)), []int{-1}, api.ErrLimit, 0}, {broken, []int{-1}, api.ErrType, 0}, {session(t, loops, ""), []int{-1}, api.ErrRange, 0},
		{session(t, loops, ""), []int{0}, api.ErrLimit, 0}, {session(t, loops, ""), nil, api.OK, 0}, {session(t, loops, "0?"), nil, api.ErrLimit, 0},
		{endless, make([]int, 60), api.OK, 122}, {full, nil, api.OK, 400}, {full, []int{0}, api.ErrLimit, 0}, {filled, nil, api.OK, 400}, {filled, []int{0}, api.ErrLimit, 0},
		{nearly, []int{0}, api.OK, 400}, {nearly, []int{0, 0}, api.ErrLimit, 0},
		{saying(x, slices.Repeat(word(t, "1? 1?"), 200)), []int{0}, api.OK, 400},
	} {
		w, u, e := run.Talk(y.x, y.by)
		if e != y.e || len(w) != y.many || e != api.OK && !sameTurn(u, api.Turn{}) {
			t.Errorf("%d: Talk: %d moves, %v, %v", i, len(w), u, e)
		}
	}
}

// P6.3: the next moves that there are with any picks.
func TestCan(t *testing.T) {
	const s = "export m():int 4=(choose 0 else 1)+(choose 0 else (choose 2 else (hang;0)));"
	const ask = "import i:int 2; import j:int 2; export m():int 2=choose i else choose j else choose 1 else(hang;0);"
	for i, x := range []struct {
		s, word string
		picks   []int
		many    int
		want    string
		hangs   bool
		e       api.Errno
	}{
		{s, "0?", nil, 0, "0!0", false, api.OK}, {s, "0?", nil, 1, "0!0 0!1", false, api.OK}, {s, "0?", nil, 2, "0!0 0!1 0!2 0!3", false, api.OK}, {s, "0?", nil, 3, "0!0 0!1 0!2 0!3", true, api.OK}, {s, "0?", nil, 8, "0!0 0!1 0!2 0!3", true, api.OK},
		{s, "0?", nil, 9, "", false, api.ErrRange}, {s, "0?", nil, -1, "", false, api.ErrRange},
		{s, "0?", []int{1}, 1, "0!1 0!3", false, api.OK}, {s, "0?", []int{1, 1}, 1, "0!3", true, api.OK}, {s, "0?", []int{1, 1, 1}, 8, "", true, api.OK}, {s, "0?", make([]int, 192), 8, "0!0", false, api.OK},
		{s, "0?", make([]int, 192), 9, "", false, api.ErrRange}, {s, "0?", make([]int, 193), 8, "", false, api.ErrLimit}, {s, "", make([]int, 200), 1, "", false, api.ErrLimit}, {s, "0?", make([]int, 200), 0, "0!0", false, api.OK},
		{s, "", nil, 3, "", false, api.OK}, {s, "0? 0!2", nil, 3, "", false, api.OK}, {s, "0? 0!2 0?", nil, 3, "", false, api.OK}, {s, "1?", nil, 3, "", false, api.OK},
		{ask, "0?", nil, 2, "0!1 1? 2?", false, api.OK}, {ask, "0?", nil, 3, "0!1 1? 2?", true, api.OK},
		{ask, "0? 2?", nil, 3, "", false, api.OK}, {ask, "0? 2? 2!1", nil, 3, "0!1", false, api.OK}, {ask, "0? 2? 2!1", []int{1, 1}, 1, "", false, api.OK},
		{"export m():com=choose skip else while true do skip;", "0?", nil, 0, "0!0", false, api.OK}, {"export m():com=choose skip else while true do skip;", "0?", nil, 1, "", false, api.ErrLimit},
		{"export m():com=choose skip else while true do skip;", "0?", []int{0}, 8, "0!0", false, api.OK},
	} {
		l, hangs, e := run.Can(session(t, x.s, x.word, x.picks...), x.many)
		if text(t, l) != x.want || hangs != x.hangs || e != x.e {
			t.Errorf("%d: Can: %s, %v, %v", i, text(t, l), hangs, e)
		}
	}
	for _, x := range []struct {
		x api.Session
		e api.Errno
	}{{session(t, "export m():com=1;", "0?"), api.ErrType}, {saying(session(t, s, ""), make(api.Word, 401)), api.ErrLimit}, {session(t, s, "", make([]int, 201)...), api.ErrLimit}} {
		if l, hangs, e := run.Can(x.x, -1); len(l) > 0 || hangs || e != x.e {
			t.Errorf("Can: %v, %v, %v", l, hangs, e)
		}
	}
}

// P6.3 and P6.8: the moves of Can are those of Next with all picks.
func TestCanByHand(t *testing.T) {
	r := source(3)
	several := 0
	for range 400 {
		x := randomSession(r)
		x.Picks = x.Picks[:min(len(x.Picks), r.Intn(3))]
		a := place(t, x)
		for len(x.Word) < 10 {
			u, e := run.Next(x)
			if e != api.OK || u.State != api.StateAsks {
				break
			}
			x = saying(x, heard(t, r, a, slices.Concat(x.Word, u.Moves)))
			many := r.Intn(5)
			var want []api.Move
			wantHangs, limit := false, false
			for n := range 1 << many {
				y := x
				y.Picks = slices.Clone(x.Picks)
				for i := range many {
					y.Picks = append(y.Picks, n>>i&1)
				}
				v, e := run.Next(y)
				limit = limit || e != api.OK
				want = append(want, v.Moves...)
				wantHangs = wantHangs || v.State == api.StateHangs
			}
			slices.SortFunc(want, compareMoves)
			want = slices.Compact(want)
			l, hangs, e := run.Can(x, many)
			if limit {
				want, wantHangs = nil, false
			}
			if !slices.Equal(l, want) || hangs != wantHangs || e != api.OK != limit {
				t.Fatalf("%s%s %v, %d: Can: %v, %v, %v, not %v, %v", printed(x.T), text(t, x.Word), x.Picks, many, l, hangs, e, want, wantHangs)
			}
			if len(want) > 1 {
				several++
			}
		}
	}
	if several < 20 {
		t.Errorf("%d times there are several moves", several)
	}
}

func compareMoves(x, y api.Move) int {
	switch {
	case arena.Less(x, y):
		return -1
	case arena.Less(y, x):
		return 1
	}
	return 0
}
