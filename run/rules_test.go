package run_test

import (
	"math"
	"math/rand"
	"reflect"
	"slices"
	"strings"
	"testing"

	"riposte/api"
	"riposte/parse"
	"riposte/run"
)

// calls are all functions, with their results as lists of any.
func calls(x api.Session, by []int, many int) map[string][]any {
	r := map[string][]any{}
	tell := func(name string, results ...any) { r[name] = results }
	a, e := run.Arena(x)
	tell("Arena", a, e)
	u, e := run.Next(x)
	tell("Next", u, e)
	w, u, e := run.Talk(x, by)
	tell("Talk", w, u, e)
	l, hangs, e := run.Can(x, many)
	tell("Can", l, hangs, e)
	n, e := run.From(x)
	tell("From", n, e)
	c, e := run.Store(x)
	tell("Store", c, e)
	return r
}

// isZero tells whether a result is its zero value (a list: empty).
func isZero(x any) bool {
	v := reflect.ValueOf(x)
	return v.IsZero() || v.Kind() == reflect.Slice && v.Len() == 0
}

// checkErrors tests R2: with an error every result is a zero value.
func checkErrors(t *testing.T, r map[string][]any) {
	t.Helper()
	for name, l := range r {
		last := len(l) - 1
		if l[last] != api.OK && slices.ContainsFunc(l[:last], func(x any) bool { return !isZero(x) }) {
			t.Fatalf("%s: %v", name, l)
		}
	}
}

// values are numbers of any kind.
var values = []int{math.MinInt, -2, -1, 0, 0, 1, 1, 2, 3, 8, 9, 64, 65, math.MaxInt}

func anyMove(r *rand.Rand) api.Move {
	return api.Move{Id: pick(r, values...), Arg: pick(r, values...), Kind: uint8(r.Intn(6)), N: pick(r, values...)}
}

// bent returns a tree some of whose nodes are others.
func bent(r *rand.Rand, x api.Tree) api.Tree {
	l := slices.Clone(x.Nodes)
	for range r.Intn(3) {
		y := &l[r.Intn(len(l))]
		switch r.Intn(5) {
		case 0:
			y.Kind = uint8(r.Intn(45))
		case 1:
			y.Text = pick(r, "", "i", "m", "v1", "v2", "v3", "If", "\x00")
		case 2:
			y.N = pick(r, values...)
		case 3:
			y.M = pick(r, values...)
		default:
			y.Size = pick(r, values...)
		}
	}
	return api.Tree{Nodes: l}
}

// copied returns a session that shares no memory with another one.
func copied(x api.Session) api.Session {
	x.T.Nodes, x.Word, x.Picks = slices.Clone(x.T.Nodes), slices.Clone(x.Word), slices.Clone(x.Picks)
	return x
}

// P1, P2, R2 and R8: all functions, with any values.
func TestAnyValues(t *testing.T) {
	r := source(30)
	right := 0
	for range 1500 {
		x := randomSession(r)
		l := conversation(t, r, x, 8)
		x.Word = slices.Concat(l[len(l)-1].Word, l[len(l)-1].Moves)
		for range r.Intn(3) {
			x.Word = append(x.Word, anyMove(r))
		}
		for range r.Intn(3) {
			x.Picks = append(x.Picks, pick(r, values...))
		}
		x.T = bent(r, x.T)
		x.Export = pick(r, "m", "m", "m", "", "v1", "\xff")
		by := []int{r.Intn(9), pick(r, values...), pick(r, values...)}[:r.Intn(4)]
		many := pick(r, 0, 1, 2, 3, math.MinInt, -1, 9, math.MaxInt)
		y, by2 := copied(x), slices.Clone(by)
		first := calls(x, by, many)
		checkErrors(t, first)
		if !reflect.DeepEqual(first, calls(y, by2, many)) {
			t.Fatal("results differ")
		}
		if !reflect.DeepEqual(x.T, y.T) || !slices.Equal(x.Word, y.Word) || !slices.Equal(x.Picks, y.Picks) || !slices.Equal(by, by2) {
			t.Fatal("an argument was changed")
		}
		if first["Next"][1] == api.OK {
			right++
		}
	}
	if right < 200 {
		t.Errorf("%d sessions without errors", right)
	}
}

// R1: the errors of a session, those of its arena first; then ErrLimit of the execution.
func TestErrors(t *testing.T) {
	ids := "import a:bool;import b:bool;import c:bool;import d:bool;import e:bool;import f:bool;import g:bool;import h:bool;"
	long := make(api.Word, 401)
	for i, x := range []struct {
		s      string
		export string
		word   api.Word
		picks  int
		e      api.Errno
	}{
		{"export m():com=1;", "m", long, 201, api.ErrType},
		{"export m():com=x;", "m", nil, 0, api.ErrName},
		{"export m():int 65=1;", "n", long, 0, api.ErrRange},
		{"export m():com=skip; export m():com=skip;", "n", nil, 0, api.ErrTwice},
		{plus, "n", long, 0, api.ErrNone},
		{plus, "i", nil, 201, api.ErrNone},
		{plus, "", nil, 0, api.ErrNone},
		{ids + "export m():com=skip;", "m", nil, 0, api.OK},
		{ids + "export m(x:com):com=skip;", "m", nil, 0, api.ErrLimit},
		{"import f:(com,com,com,com,com,com)->com; export m():com=skip;", "m", nil, 0, api.ErrLimit},
		{plus, "m", long, 0, api.ErrLimit},
		{plus, "m", make(api.Word, 400), 0, api.OK},
		{plus, "m", nil, 201, api.ErrLimit},
		{plus, "m", nil, 200, api.OK},
	} {
		y := api.Session{T: parsed(t, x.s), Export: x.export, Word: x.word, Picks: make([]int, x.picks)}
		for name, l := range calls(y, nil, 0) {
			if l[len(l)-1] != x.e {
				t.Errorf("%d: %s: %v, not %v", i, name, l, x.e)
			}
		}
	}
	for i, x := range []struct {
		tree api.Tree
		e    api.Errno
	}{{api.Tree{}, api.ErrForm}, {api.Tree{Nodes: make([]api.TreeNode, 901)}, api.ErrLimit}} {
		for name, l := range calls(api.Session{T: x.tree, Export: "m", Word: long}, nil, 0) {
			if l[len(l)-1] != x.e {
				t.Errorf("%d: %s: %v, not %v", i, name, l, x.e)
			}
		}
	}
	for name, l := range calls(session(t, loops, "0?"), nil, 0) {
		want := api.ErrLimit
		if name == "Arena" {
			want = api.OK
		}
		if l[len(l)-1] != want {
			t.Errorf("%s: %v", name, l)
		}
	}
	// As long as the word does not come there it does not matter.
	for name, l := range calls(session(t, loops, "0!0"), nil, 0) {
		if l[len(l)-1] != api.OK {
			t.Errorf("%s: %v", name, l)
		}
	}
}

// P6.1 and R7: an execution of MaxSteps steps is fine, one more is not.
func TestMostSteps(t *testing.T) {
	with := func(more int) string {
		return "import i:com;export m():com=new a:60:=0 in new b:60:=0 in((while!a<54 do(a:=!a+1;b:=0;while!b<50 do b:=!b+1))" + strings.Repeat(";skip", more) + ");"
	}
	least := next(t, session(t, with(1), "0?")).Steps - 1
	if least > api.MaxSteps || least < api.MaxSteps-350 {
		t.Fatalf("%d steps", least)
	}
	more := api.MaxSteps - least
	u := next(t, session(t, with(more), "0?"))
	if u.Steps != api.MaxSteps || u.State != api.StateOver {
		t.Errorf("%d steps more: %v", more, u)
	}
	if u, e := run.Next(session(t, with(more+1), "0?")); e != api.ErrLimit || !sameTurn(u, api.Turn{}) {
		t.Errorf("%d steps more: %v, %v", more+1, u, e)
	}
	// It is the program's last step that counts, not what comes behind it.
	last := strings.Replace(with(more), ";skip);", ";i);", 1)
	if u := next(t, session(t, last, "0?")); u.Steps != api.MaxSteps || u.State != api.StateAsks {
		t.Errorf("%v", u)
	}
	if u := next(t, session(t, last, "0? 1? 1!0")); u.Steps != api.MaxSteps || u.State != api.StateOver {
		t.Errorf("%v", u)
	}
}

// R7: words of MaxWord moves.
func TestLongestWords(t *testing.T) {
	s := "import f:(com)->com; export m():com=f(skip);"
	w := slices.Concat(word(t, "0? 1?"), slices.Repeat(word(t, "1.1? 1.1!0"), 198), word(t, "1.1?"))
	u := next(t, session(t, s, text(t, w)))
	if len(w) != 399 || u.State != api.StateAsks || text(t, u.Moves) != "1.1!0" {
		t.Errorf("%d moves: %v", len(w), u)
	}
	w = append(w, u.Moves...)
	x := saying(session(t, s, ""), w)
	if u := next(t, x); u.State != api.StateAsks || u.At != 400 || len(u.Moves) != 0 {
		t.Errorf("%d moves: %v", len(w), u)
	}
	if l, e := run.From(x); len(l) != 400 || e != api.OK {
		t.Errorf("From: %d, %v", len(l), e)
	}
	w = slices.Concat(w[:398], word(t, "1!0 0!0"))
	if u := next(t, saying(x, w)); u.State != api.StateOver || u.At != 400 {
		t.Errorf("%d moves: %v", len(w), u)
	}
}

// R3: nil and empty lists are the same.
func TestNilAndEmpty(t *testing.T) {
	for _, s := range []string{plus, keeps, chance} {
		x := session(t, s, "")
		y := x
		x.Word, x.Picks, y.Word, y.Picks = nil, nil, api.Word{}, []int{}
		if one, two := calls(x, nil, 1), calls(y, []int{}, 1); !reflect.DeepEqual(one, two) {
			t.Errorf("%s: %v, not %v", s, two, one)
		}
	}
}

// fill changes all memory of a list.
func fill[T any](l []T, x T) {
	l = l[:cap(l)]
	for i := range l {
		l[i] = x
	}
}

// spoil changes all memory of a result.
func spoil(x any) {
	switch y := x.(type) {
	case []int:
		fill(y, -9)
	case []api.Move:
		fill(y, api.Move{Id: -9})
	case api.Word:
		fill(y, api.Move{Id: -9})
	case []api.CellSeen:
		fill(y, api.CellSeen{Node: -9})
	case api.Turn:
		fill(y.Moves, api.Move{Id: -9})
	case api.Arena:
		for _, k := range y.Ids {
			fill(k.Params, api.Base{N: -9})
		}
		fill(y.Ids, api.Type{})
	}
}

// spare returns a list with room behind its end, and all of the memory.
func spare[T any](l []T, sentinel T) (list, all []T) {
	all = append(slices.Clone(l), slices.Repeat([]T{sentinel}, 12)...)
	return all[:len(l)], all
}

// P2 and R4: neither arguments nor what lies behind their ends are changed; results are new memory, and share none.
func TestMemory(t *testing.T) {
	programs := []string{plus, leaves, keeps, "import f:(cell 2)->com; export m():int 4=new c:2:=0 in(f(c);(choose 0 else 1)+(choose 0 else 2));"}
	for _, s := range programs {
		for _, said := range []string{"", "0?", "0? 1? 1.1?", "0? 1? 1!0", "0? 1? 1!0 0!0", "7?"} {
			x := session(t, s, said, 1)
			nodes, allNodes := spare(x.T.Nodes, api.TreeNode{Kind: 99})
			w, allWord := spare(x.Word, api.Move{Id: -7})
			picks, allPicks := spare(x.Picks, -7)
			by, allBy := spare([]int{0, 1, 2}, -7)
			x.T.Nodes, x.Word, x.Picks = nodes, w, picks
			wantNodes, wantWord, wantPicks, wantBy := slices.Clone(allNodes), slices.Clone(allWord), slices.Clone(allPicks), slices.Clone(allBy)
			want := calls(x, by, 2)
			for range 2 {
				got := calls(x, by, 2)
				if !reflect.DeepEqual(got, want) {
					t.Fatalf("%s, %s: %v, not %v", s, said, got, want)
				}
				for name, l := range got {
					if name == "Talk" {
						spoil(l[1])
						if !slices.Equal(l[0].(api.Word), want["Talk"][0].(api.Word)) {
							t.Fatalf("%s, %s: the results of Talk share memory", s, said)
						}
					}
					for _, y := range l {
						spoil(y)
					}
				}
			}
			if !slices.Equal(allNodes, wantNodes) || !slices.Equal(allWord, wantWord) || !slices.Equal(allPicks, wantPicks) || !slices.Equal(allBy, wantBy) {
				t.Errorf("%s, %s: an argument, or what lies behind it, was changed", s, said)
			}
		}
	}
}

// P6.1: At of nodes may be anything.
func TestPlaces(t *testing.T) {
	x := session(t, keeps, "0? 1? 1.1=1 1.1!0 1!0")
	y := copied(x)
	for i := range y.T.Nodes {
		y.T.Nodes[i].At = values[i%len(values)]
	}
	bare := copied(x)
	bare.T, _ = parse.Bare(x.T)
	if one, two, three := calls(x, nil, 0), calls(y, nil, 0), calls(bare, nil, 0); !reflect.DeepEqual(one, two) || !reflect.DeepEqual(one, three) {
		t.Errorf("%v, %v, %v", one, two, three)
	}
}
