package play_test

import (
	"math"
	"math/rand"
	"reflect"
	"slices"
	"testing"

	"riposte/api"
	"riposte/play"
)

// calls are all functions with an arena, with their results as lists of any.
func calls(a api.Arena, w api.Word, ids []int) map[string][]any {
	r := map[string][]any{}
	tell := func(name string, results ...any) { r[name] = results }
	at, e := play.Check(a, w)
	tell("Check", at, e)
	s, e := play.Stand(a, w)
	tell("Stand", s, e)
	moves, e := play.Next(a, w)
	tell("Next", moves, e)
	for name, f := range map[string]func(api.Arena, api.Word) ([]int, api.Errno){"Partners": play.Partners, "Justifiers": play.Justifiers, "View": play.View, "Sight": play.Sight} {
		l, e := f(a, w)
		tell(name, l, e)
	}
	part, e := play.Part(a, w, ids)
	tell("Part", part, e)
	n, e := play.Depth(a, w)
	tell("Depth", n, e)
	closed, e := play.Close(a, w)
	tell("Close", closed, e)
	cut, e := play.Cut(a, w)
	tell("Cut", cut, e)
	return r
}

// textCalls are all other functions.
func textCalls(w api.Word, s string) map[string][]any {
	text, e := play.Text(w)
	word, f := play.Parse(s)
	return map[string][]any{"Text": {text, e}, "Parse": {word, f}}
}

// isZero tells whether a result is its zero value (a list: empty).
func isZero(x any) bool {
	v := reflect.ValueOf(x)
	return v.IsZero() || v.Kind() == reflect.Slice && v.Len() == 0
}

// checkErrors tests R2: with an error every result is a zero value, but what Check says of ErrOdd.
func checkErrors(t *testing.T, r map[string][]any) {
	t.Helper()
	for name, l := range r {
		last := len(l) - 1
		if name == "Check" && l[last] == api.ErrOdd {
			continue
		}
		if l[last] != api.OK && slices.ContainsFunc(l[:last], func(x any) bool { return !isZero(x) }) {
			t.Fatalf("%s: %v", name, l)
		}
	}
}

// values are numbers of any kind.
var values = []int{math.MinInt, -2, -1, 0, 0, 1, 1, 2, 3, 8, 9, 64, 65, math.MaxInt}

func anyMove(r *rand.Rand) api.Move {
	return api.Move{Id: pick(r, values...), Arg: pick(r, values...), Kind: uint8(r.Intn(6)), N: pick(r, values...)}
}

// anyArena returns an arena that no function has made.
func anyArena(r *rand.Rand) api.Arena {
	base := func() api.Base { return api.Base{Cell: r.Intn(2) == 0, N: pick(r, values...)} }
	a := api.Arena{Root: base(), Jumps: r.Intn(2) == 0}
	for range r.Intn(11) {
		k := api.Type{Result: base()}
		for range r.Intn(8) {
			k.Params = append(k.Params, base())
		}
		a.Ids = append(a.Ids, k)
	}
	return a
}

// bent returns a text with some bytes that are others, missing, or more.
func bent(r *rand.Rand, s, bytes string) string {
	b := []byte(s)
	for range r.Intn(4) {
		at := r.Intn(len(b) + 1)
		c := bytes[r.Intn(len(bytes))]
		switch r.Intn(3) {
		case 0:
			b = slices.Insert(b, at, c)
		case 1:
			b = slices.Delete(b, at, min(at+1, len(b)))
		default:
			b = slices.Replace(b, at, min(at+1, len(b)), c)
		}
	}
	return string(b)
}

// copied returns an arena that shares no memory with another one.
func copied(a api.Arena) api.Arena {
	a.Ids = slices.Clone(a.Ids)
	for i, k := range a.Ids {
		a.Ids[i].Params = slices.Clone(k.Params)
	}
	return a
}

// P1, P2, R2 and R8: all functions, with any values.
func TestAnyValues(t *testing.T) {
	r := source(20)
	for i := range 6000 {
		a := place(t, pick(r, arenaTexts...))
		w := randomWord(r, a, pick(r, styles...), r.Intn(12))
		for range r.Intn(3) {
			w = append(w, anyMove(r))
		}
		if i%4 == 0 {
			a = anyArena(r)
		}
		ids := []int{pick(r, values...), pick(r, values...)}[:r.Intn(3)]
		s := bent(r, pick(r, "", said, "1.1!* 1!*", "\xff"), "0123456789 ?!=*.\x00\xff")
		a2, w2, ids2 := copied(a), slices.Clone(w), slices.Clone(ids)
		first, texts := calls(a, w, ids), textCalls(w, s)
		checkErrors(t, first)
		checkErrors(t, texts)
		if !reflect.DeepEqual(first, calls(a2, w2, ids2)) || !reflect.DeepEqual(texts, textCalls(w2, s)) {
			t.Fatalf("%v, %v: results differ", a, w)
		}
		if !reflect.DeepEqual(a, a2) || !slices.Equal(w, w2) || !slices.Equal(ids, ids2) {
			t.Fatal("an argument was changed")
		}
	}
}

// R1: the arena's errors come first, then ErrLimit, then ErrOdd, then what a function says.
func TestOrderOfErrors(t *testing.T) {
	one := api.Type{Result: api.Base{N: 1}}
	good := place(t, jumps)
	form, limit := api.Arena{Ids: []api.Type{one}}, api.Arena{Ids: slices.Repeat([]api.Type{one}, 9)}
	params := api.Arena{Ids: []api.Type{{Params: make([]api.Base, 6)}}, Root: one.Result}
	legal := word(t, "0? 1?")
	long := slices.Repeat(word(t, "0? 0!0"), 201)
	fits := slices.Repeat(word(t, "0? 0!0"), 200)
	for _, x := range []struct {
		a api.Arena
		w api.Word
		e api.Errno
		n int
	}{
		{form, legal, api.ErrForm, 0}, {form, nil, api.ErrForm, 0}, {form, long, api.ErrForm, 0}, {form, make(api.Word, 2), api.ErrForm, 0},
		{limit, legal, api.ErrLimit, 0}, {limit, make(api.Word, 2), api.ErrLimit, 0}, {params, legal, api.ErrLimit, 0}, {params, nil, api.ErrLimit, 0},
		{good, long, api.ErrLimit, 0}, {good, make(api.Word, 401), api.ErrLimit, 0}, {good, fits, api.ErrOdd, 2}, {good, make(api.Word, 400), api.ErrOdd, 0}, {good, word(t, "1? 0?"), api.ErrOdd, 0}, {good, word(t, "0? 1? 1?"), api.ErrOdd, 2}, {good, word(t, "0? 1? 1? 0?"), api.ErrOdd, 2},
		// The moves of a deep word are looked at before the length of its close, or of whose move is the last.
		{good, append(slices.Concat(word(t, "0?"), slices.Repeat(word(t, "1? 1.1?"), 150)), word(t, "0?")...), api.ErrOdd, 301},
	} {
		for name, l := range calls(x.a, x.w, []int{0, 1}) {
			e := l[len(l)-1]
			switch {
			case name == "Cut" && x.e == api.ErrOdd:
				if w, _ := l[0].(api.Word); e != api.OK || !slices.Equal(w, x.w[:x.n]) {
					t.Errorf("Cut of %d moves: %v", len(x.w), l)
				}
			case e != x.e || name == "Check" && l[0] != x.n || name != "Check" && !isZero(l[0]):
				t.Errorf("%s of %d moves: %v, not %v", name, len(x.w), l, x.e)
			}
		}
	}
}

// R7: words of MaxWord moves are fine, in all functions.
func TestLongestWords(t *testing.T) {
	a := place(t, plain)
	w := slices.Concat(word(t, "0?"), slices.Repeat(word(t, "2? 2!1"), 199), word(t, "0!1"))
	for name, l := range calls(a, w, []int{0, 1, 2}) {
		want := api.OK
		if name == "View" {
			want = api.ErrState
		}
		if l[len(l)-1] != want {
			t.Errorf("%s of %d moves: %v", name, len(w), l[len(l)-1])
		}
	}
	if got, _ := play.Part(a, w, []int{0, 2}); !slices.Equal(got, w) {
		t.Error("Part of a long word differs")
	}
	if got, _ := play.Sight(a, w); !slices.Equal(got, []int{0, 399}) {
		t.Error("Sight of a long word differs")
	}
}

// R3: nil and empty lists are the same, as arguments and as results.
func TestNilAndEmpty(t *testing.T) {
	none := place(t, "int 2; int 2; cell 3")
	empty := copied(none)
	for i := range empty.Ids {
		empty.Ids[i].Params = []api.Base{}
	}
	for _, s := range []string{"", "0?", "0? 2=1", "0? 1? 1!1 0!0", "1?"} {
		w := word(t, s)
		if x, y := calls(none, w, nil), calls(empty, w, []int{}); !reflect.DeepEqual(x, y) {
			t.Errorf("%s: %v, not %v", s, y, x)
		}
	}
	if x, y := calls(none, nil, nil), calls(none, api.Word{}, []int{}); !reflect.DeepEqual(x, y) {
		t.Errorf("the empty word: %v, not %v", y, x)
	}
	if x, y := calls(api.Arena{Root: api.Base{N: 1}}, nil, nil), calls(api.Arena{Ids: []api.Type{}, Root: api.Base{N: 1}}, nil, nil); !reflect.DeepEqual(x, y) {
		t.Errorf("an arena without identifiers: %v, not %v", y, x)
	}
}

// fill changes all memory of a list.
func fill[T any](l []T, x T) {
	l = l[:cap(l)]
	for i := range l {
		l[i] = x
	}
}

// spoil changes all memory of a result.
func spoil(x any) {
	switch y := x.(type) {
	case []int:
		fill(y, -9)
	case []api.Move:
		fill(y, api.Move{Id: -9})
	case api.Word:
		fill(y, api.Move{Id: -9})
	case api.Stand:
		fill(y.Open, -9)
	}
}

// spare returns a list with room behind its end, and all of the memory.
func spare[T any](l []T, sentinel T) (list, all []T) {
	all = append(slices.Clone(l), slices.Repeat([]T{sentinel}, 9)...)
	return all[:len(l)], all
}

// P2 and R4: neither arguments nor what lies behind their ends are changed; results are new memory.
func TestMemory(t *testing.T) {
	other := api.Move{Id: -7}
	for _, s := range []string{"", "0?", said, said + " 0!0", "0? 1? 1.1? 2?", "0? 1? 1.1? 1.1!*", "0? 1? 1.1? 2? 2!*", "1?", "0? 1? 1? 0!0"} {
		a := place(t, jumps)
		w, all := spare(word(t, s), other)
		ids, allIds := spare([]int{2, 0}, -7)
		wantArena, wantWord, wantIds := copied(a), slices.Clone(all), slices.Clone(allIds)
		want := calls(a, w, ids)
		for range 2 {
			got := calls(a, w, ids)
			if !reflect.DeepEqual(got, want) {
				t.Fatalf("%s: %v, not %v", s, got, want)
			}
			for _, l := range got {
				for _, y := range l {
					spoil(y)
				}
			}
			x, _ := play.Parse(s)
			spoil(x)
		}
		if !reflect.DeepEqual(a, wantArena) || !slices.Equal(all, wantWord) || !slices.Equal(allIds, wantIds) {
			t.Errorf("%s: an argument, or what lies behind it, was changed", s)
		}
	}
}
