package run_test

import (
	"slices"
	"testing"

	"riposte/api"
	"riposte/run"
)

// from tests from which nodes moves come: they are given by kinds and texts; nothing is -1.
func from(t *testing.T, x api.Session, want ...int) {
	t.Helper()
	if l, e := run.From(x); !slices.Equal(l, want) || e != api.OK {
		t.Errorf("%s%s: From: %v, %v, not %v", printed(x.T), text(t, x.Word), l, e, want)
	}
}

// P6.4: the nodes of moves.
func TestFrom(t *testing.T) {
	x := session(t, plus, "0? 1? 1!2 0!0")
	i := node(t, x.T, api.NameNode, "i", 1)
	term := node(t, x.T, api.AddNode, "", 1)
	for n, want := range [][]int{nil, {-1, i}, {-1, i}, {-1, i, -1, term}, {-1, i, -1, term}} {
		from(t, saying(x, x.Word[:n]), want...)
	}
	// An odd move comes from nowhere, and so does what is behind it.
	from(t, session(t, plus, "1?"))
	from(t, session(t, plus, "0? 2? 1!2"), -1)
	from(t, session(t, plus, "0? 1? 1!3 0!0"), -1, i)
	from(t, session(t, plus, "0? 1? 1!2 0!0 0?"), -1, i, -1, term)
	from(t, session(t, "export m():com=hang;", "0?"), -1)
	from(t, session(t, "export m():com=hang;", "0? 0!0"), -1)

	// The first identifier is asked, as an argument of another one, where it is handed over to this.
	y := session(t, hands, "0? 1? 1.1=1 2=1 2!0 1.1!0 1.1? 2? 2!1")
	call := node(t, y.T, api.CallNode, "f", 1)
	from(t, y, -1, call, -1, call+1, -1, call+1, -1, call+1, -1, call+1)
	z := session(t, "import f:(cell 3)->com; def d(c:cell 3):com=f(c); export m(g:cell 3):com=d(g);", "0? 1? 1.1? 2?")
	call = node(t, z.T, api.CallNode, "f", 1)
	from(t, z, -1, call, -1, call+1)
	// A function that is an identifier is asked where it is called, not where it is handed over.
	z = session(t, "import f:(bool)->com; def d(k:(bool)->com):com=k(true); export m():com=d(f);", "0? 1? 1.1?")
	call = node(t, z.T, api.CallNode, "k", 1)
	from(t, z, -1, call, -1, call+1)
	// So is a cell that is got and put.
	z = session(t, "def d(c:cell 3):com=c:=!c+1; export m(g:cell 3):com=d(g);", "0? 1? 1!1 1=2 1!0")
	from(t, z, -1, node(t, z.T, api.GetNode, "c", 1), -1, node(t, z.T, api.PutNode, "c", 1), -1, node(t, z.T, api.CallNode, "d", 1))
	// An argument that is an integer is evaluated where its name is.
	z = session(t, "import f:(bool)->com; def d(b:bool):com=f(b); export m(g:bool):com=d(g);", "0? 1? 1.1? 2? 2!0")
	call = node(t, z.T, api.CallNode, "f", 1)
	from(t, z, -1, call, -1, node(t, z.T, api.NameNode, "g", 1), -1, call+1)
	// What is in an object comes from there; the answers from the object.
	z = session(t, "import f:(cell 2)->com; import i:bool; export m():com=f({get i;put v.i as 1});", "0? 1? 1.1? 2? 2!0 1.1!0 1.1=1 2? 2!1")
	object := node(t, z.T, api.ObjectNode, "", 1)
	from(t, z, -1, object-1, -1, node(t, z.T, api.NameNode, "i", 1), -1, object, -1, node(t, z.T, api.NameNode, "i", 2), -1, object)
	// Jumps come from where answers do.
	z = jumpy(t, "import f:(com)->com; import i:com; export m():com=label l in f(i;jump l)else i;", "0? 1? 1.1? 2? 2!0 1.1!* 1!* 2? 2!* 0!*")
	from(t, z, -1, node(t, z.T, api.CallNode, "f", 1), -1, node(t, z.T, api.NameNode, "i", 1), -1, node(t, z.T, api.SeqNode, "", 1), -1, node(t, z.T, api.NameNode, "i", 2), -1, node(t, z.T, api.LabelNode, "l", 1))
}

// P6.5: the cells that there are.
func TestStore(t *testing.T) {
	const two = "import f:(cell 2,bool)->com; def g(c:cell 2):com=f(c,true); export m():bool=new a:2:=1 in new b:2:=0 in(g(a);b:=!a;!b);"
	const deep = "import f:(com)->com; import i:com; export m():com=new a:3:=0 in(a:=1;f(new b:3:=0 in(b:=2;i;b:=1;i));i;a:=2;i;hang);"
	const left = "import f:(com)->com; import i:com; export m():com=new a:3:=0 in label l in(new b:3:=1 in f(new c:3:=2 in notice a:=2 in(i;jump l)))else i;"
	for _, x := range []struct {
		s, word string
		want    []string
		values  []int
	}{
		{plus, "0? 1? 1!1", nil, nil},
		{keeps, "", nil, nil},
		{keeps, "0?", []string{"c"}, []int{0}},
		{keeps, "0? 1?", []string{"c"}, []int{0}},
		{keeps, "0? 1? 1.1=1", []string{"c"}, []int{1}},
		{keeps, "0? 1? 1.1=1 1.1!0", []string{"c"}, []int{1}},
		{keeps, "0? 1? 1.1=1 1.1!0 1!0", nil, nil},
		{keeps, "0? 1? 1.1=1 1.1!0 1!0 0!1", nil, nil},
		// Where a move is odd the cells are still there.
		{keeps, "0? 1? 1.1=1 1.1!1", []string{"c"}, []int{1}},
		{keeps, "0? 1? 1.1=2", []string{"c"}, []int{0}},
		{keeps, "0? 1!0", []string{"c"}, []int{0}},
		{keeps, "0? 1? 1.1=1 1.1!0 1!0 0!0", nil, nil},
		{"export m():com=new c:2:=1 in hang;", "0?", []string{"c"}, []int{1}},
		{"export m():com=new c:2:=1 in hang;", "0? 0!0", []string{"c"}, []int{1}},
		{two, "0?", []string{"a", "b"}, []int{1, 0}},
		{two, "0? 1? 1.1=0", []string{"a", "b"}, []int{0, 0}},
		{deep, "0? 1? 1.1?", []string{"a", "b"}, []int{1, 2}},
		{deep, "0? 1? 1.1? 2? 2!0", []string{"a", "b"}, []int{1, 1}},
		{deep, "0? 1? 1.1? 2? 2!0 2? 2!0", []string{"a"}, []int{1}},
		{deep, "0? 1? 1!0 2? 2!0", []string{"a"}, []int{2}},
		{deep, "0? 1? 1!0 2? 2!0 2? 2!0", []string{"a"}, []int{2}},
		// A jump goes past some of them.
		{left, "0? 1? 1.1?", []string{"a", "b", "c"}, []int{0, 1, 2}},
		{left, "0? 1? 1.1? 2? 2!0", []string{"a", "b"}, []int{2, 1}},
		{left, "0? 1? 1.1? 2? 2!0 1.1!* 1!*", []string{"a"}, []int{2}},
		{left, "^0? 1? 1.1? 2? 2!*", []string{"a", "b"}, []int{2, 1}},
		{left, "^0? 1? 1.1? 2? 2!* 1.1!* 1!*", nil, nil},
	} {
		y := turned{s: x.s, word: x.word}.session(t)
		var want []api.CellSeen
		for i, name := range x.want {
			want = append(want, api.CellSeen{Node: node(t, y.T, api.NewNode, name, 1), N: x.values[i]})
		}
		if l, e := run.Store(y); !slices.Equal(l, want) || e != api.OK {
			t.Errorf("%s, %s: Store: %v, %v, not %v", x.s, x.word, l, e, want)
		}
	}
	// A NewNode that is evaluated in itself has several cells.
	x := session(t, "import i:com; def d(k:(com)->com,v:com):com=new c:3:=1 in(v;k(c:=2)); export m():com=d(fn(a)d(fn(b)(a;b;i),skip),skip);", "0?")
	n := node(t, x.T, api.NewNode, "c", 1)
	if l, e := run.Store(x); !slices.Equal(l, []api.CellSeen{{Node: n, N: 2}, {Node: n, N: 2}}) || e != api.OK {
		t.Errorf("Store: %v, %v", l, e)
	}
	x = session(t, "import i:com; def d(k:(com)->com,v:com):com=new c:3:=1 in(v;k(c:=2)); export m():com=d(fn(a)d(fn(b)(a;i),skip),skip);", "0?")
	if l, e := run.Store(x); !slices.Equal(l, []api.CellSeen{{Node: n, N: 2}, {Node: n, N: 1}}) || e != api.OK {
		t.Errorf("Store: %v, %v", l, e)
	}
}
