package core_test

import (
	"math/rand"
	"slices"
	"strings"
	"testing"

	"riposte/api"
	"riposte/arena"
	"riposte/core"
)

// P7.6: identifiers of the arena have other numbers, and nothing else.
func TestRenumber(t *testing.T) {
	a := place(t, example+"; jumps")
	for _, x := range []struct {
		s    string
		to   []int
		want string
		in   string
	}{
		{"new/2/0(x3(!2,obj(x1,=4(#5))))", []int{1, 2, 3}, "new/2/0(x3(!2,obj(x1,=4(#5))))", "int 1; int 2; cell 3; (int 3, cell 2) -> int 1; jumps"},
		{"new/2/0(x3(!2,obj(x1,=4(#5))))", []int{3, 1, 2}, "new/2/0(x2(!1,obj(x3,=4(#5))))", "int 1; cell 3; (int 3, cell 2) -> int 1; int 2; jumps"},
		{"new/3/2(label(notice/4/2(seq(jump/0,=2(2/3))),x3(!4,obj(x1,hang))))", []int{2, 3, 1}, "new/3/2(label(notice/4/2(seq(jump/0,=3(2/3))),x1(!4,obj(x2,hang))))", "int 1; (int 3, cell 2) -> int 1; int 2; cell 3; jumps"},
		{"hang", []int{2, 1, 3}, "hang", "int 1; cell 3; int 2; (int 3, cell 2) -> int 1; jumps"},
	} {
		b, y, e := core.Renumber(a, term(t, a, x.s), x.to)
		in, f := arena.Show(b)
		if e != api.OK || f != api.OK || in != x.in || text(t, b, y) != x.want {
			t.Errorf("Renumber of %s by %v: %s, %v, %v", x.s, x.to, in, y, e)
		}
	}
	c := place(t, "cell 2; cell 3; cell 2")
	if b, y, e := core.Renumber(c, api.Term{Kind: api.TermCell, Id: 2}, []int{2, 1}); e != api.OK || y.Id != 1 || b.Ids[0].Result != cell(2) {
		t.Errorf("Renumber of a cell: %v, %v, %v", b, y, e)
	}
}

// P7.6: the errors of Renumber: those of the term first.
func TestErrorsOfRenumber(t *testing.T) {
	a := place(t, example)
	hang := api.Term{Kind: api.TermHang}
	for _, to := range [][]int{nil, {}, {1}, {1, 2}, {2, 1}, {1, 2, 2}, {2, 2, 2}, {0, 1, 2}, {1, 2, 4}, {-1, 2, 3}, {1, 2, 3, 4}, {1, 2, 3, 3}, {1 << 62, 2, 3}} {
		b, x, e := core.Renumber(a, hang, to)
		if e != api.ErrArg || !sameArena(b, api.Arena{}) || !sameTerm(x, api.Term{}) {
			t.Errorf("Renumber by %v: %v, %v, %v", to, b, x, e)
		}
	}
	if _, _, e := core.Renumber(api.Arena{Root: integer(1)}, hang, []int{1}); e != api.ErrArg {
		t.Errorf("Renumber of nothing: %v", e)
	}
	if _, _, e := core.Renumber(a, api.Term{}, nil); e != api.ErrForm {
		t.Errorf("Renumber of no term: %v", e)
	}
	if _, _, e := core.Renumber(a, endless(), nil); e != api.ErrLimit {
		t.Errorf("Renumber of a term without an end: %v", e)
	}
	if _, _, e := core.Renumber(api.Arena{Ids: make([]api.Type, 9)}, api.Term{}, nil); e != api.ErrLimit {
		t.Errorf("Renumber in no arena: %v", e)
	}
}

// order returns the numbers from 1 to one in a random order, and the order that leads back.
func order(r *rand.Rand, n int) (to, back []int) {
	back = make([]int, n)
	for i, k := range r.Perm(n) {
		to = append(to, k+1)
		back[k] = i + 1
	}
	return to, back
}

// masked returns a text with # in the place of each digit run.
func masked(s string) string {
	var out []byte
	for i := range len(s) {
		isDigit := s[i] >= '0' && s[i] <= '9'
		if !isDigit || i == 0 || s[i-1] < '0' || s[i-1] > '9' {
			if isDigit {
				out = append(out, '#')
				continue
			}
			out = append(out, s[i])
		}
	}
	return string(out)
}

// P7.6 and P7.11: renumbered terms are right, differ in numbers alone, and become what they were again.
func TestRenumbered(t *testing.T) {
	r := source(40)
	differ := 0
	for range 1500 {
		a, x := randomTerm(r)
		to, back := order(r, len(a.Ids))
		b, y, e := core.Renumber(a, x, to)
		if e != api.OK || b.Root != a.Root || b.Jumps != a.Jumps || len(a.Ids) != len(b.Ids) {
			t.Fatalf("Renumber of %s by %v: %v, %v", text(t, a, x), to, b, e)
		}
		for i, k := range to {
			if !sameType(a.Ids[i], b.Ids[k-1]) {
				t.Fatalf("Renumber of %v by %v: %v", a, to, b)
			}
		}
		want := changed(x, func(z *api.Term) {
			if z.Id > 0 && z.Id <= len(to) {
				z.Id = to[z.Id-1]
			}
		})
		if !sameTerm(y, want) || masked(text(t, a, x)) != masked(text(t, b, y)) {
			t.Fatalf("Renumber of %s by %v: %s", text(t, a, x), to, text(t, b, y))
		}
		if strings.Compare(text(t, a, x), text(t, b, y)) != 0 {
			differ++
		}
		checkRenumbered(t, a, x, b, y, to)
		if c, z, e := core.Renumber(b, y, back); e != api.OK || !sameArena(a, c) || !sameTerm(x, z) {
			t.Fatalf("Renumber of %s by %v: %v, %v, %v", text(t, b, y), back, c, z, e)
		}
	}
	if differ < 500 {
		t.Errorf("%d terms differ", differ)
	}
}

// checkRenumbered tests what stays of a term, and which identifiers are named.
func checkRenumbered(t *testing.T, a api.Arena, x api.Term, b api.Arena, y api.Term, to []int) {
	t.Helper()
	size, e1 := core.Size(a, x)
	size2, e2 := core.Size(b, y)
	n, e3 := core.Nodes(x)
	n2, e4 := core.Nodes(y)
	uses, e5 := core.Uses(a, x)
	uses2, e6 := core.Uses(b, y)
	for i := range uses {
		uses[i] = to[uses[i]-1]
	}
	slices.Sort(uses)
	if e1 != api.OK || e2 != api.OK || e3 != api.OK || e4 != api.OK || e5 != api.OK || e6 != api.OK || size != size2 || n != n2 || !slices.Equal(uses, uses2) {
		t.Fatalf("%s and %s: %d, %d, %d, %d, %v, %v", text(t, a, x), text(t, b, y), size, size2, n, n2, uses, uses2)
	}
}
