package core_test

import (
	"math/rand"
	"slices"
	"strings"
	"testing"

	"riposte/api"
	"riposte/core"
)

// P7.4: the text of each kind of terms.
func TestTexts(t *testing.T) {
	a := place(t, example)
	num := func(n, m int) api.Term { return api.Term{Kind: api.TermNum, N: n, M: m} }
	hang := api.Term{Kind: api.TermHang}
	get := api.Term{Kind: api.TermGet, Id: 2}
	in := func(x api.Term, kids ...api.Term) api.Term {
		x.Kids = kids
		return x
	}
	for want, x := range map[string]api.Term{
		"0/1":                       num(0, 1),
		"hang":                      hang,
		"as/1(63/64)":               in(api.Term{Kind: api.TermAs, N: 1}, num(63, 64)),
		"as/1(x1)":                  in(api.Term{Kind: api.TermAs, N: 1}, api.Term{Kind: api.TermUse, Id: 1}),
		"=2(!2)":                    in(api.Term{Kind: api.TermPut, Id: 2}, get),
		"as/1(add/3(!2,2/3))":       in(api.Term{Kind: api.TermAs, N: 1}, in(api.Term{Kind: api.TermOp, N: api.OpAdd, M: 3}, get, num(2, 3))),
		"as/1(sub/3(!2,2/3))":       in(api.Term{Kind: api.TermAs, N: 1}, in(api.Term{Kind: api.TermOp, N: api.OpSub, M: 3}, get, num(2, 3))),
		"as/1(mul/3(!2,2/3))":       in(api.Term{Kind: api.TermAs, N: 1}, in(api.Term{Kind: api.TermOp, N: api.OpMul, M: 3}, get, num(2, 3))),
		"as/1(eq/3(!2,2/3))":        in(api.Term{Kind: api.TermAs, N: 1}, in(api.Term{Kind: api.TermOp, N: api.OpEq, M: 3}, get, num(2, 3))),
		"as/1(less/3(!2,!2))":       in(api.Term{Kind: api.TermAs, N: 1}, in(api.Term{Kind: api.TermOp, N: api.OpLess, M: 3}, get, get)),
		"seq(hang,0/1)":             in(api.Term{Kind: api.TermSeq}, hang, num(0, 1)),
		"if(!2,hang,0/1)":           in(api.Term{Kind: api.TermIf}, get, hang, num(0, 1)),
		"while(!2,hang)":            in(api.Term{Kind: api.TermWhile}, get, hang),
		"new/12/10(hang)":           in(api.Term{Kind: api.TermNew, N: 12, M: 10}, hang),
		"label(jump/0,hang)":        in(api.Term{Kind: api.TermLabel}, api.Term{Kind: api.TermJump}, hang),
		"choose(hang,0/1)":          in(api.Term{Kind: api.TermChoose}, hang, num(0, 1)),
		"new/2/0(notice/4/1(hang))": in(api.Term{Kind: api.TermNew, N: 2}, in(api.Term{Kind: api.TermNotice, Id: 4, N: 1}, hang)),
		"new/2/0(x3(!2,&4))":        in(api.Term{Kind: api.TermNew, N: 2}, in(api.Term{Kind: api.TermUse, Id: 3}, get, api.Term{Kind: api.TermCell, Id: 4})),
		"x3(!2,obj(x1,as/1(#4)))":   in(api.Term{Kind: api.TermUse, Id: 3}, get, in(api.Term{Kind: api.TermObject}, api.Term{Kind: api.TermUse, Id: 1}, in(api.Term{Kind: api.TermAs, N: 1}, api.Term{Kind: api.TermVal, Id: 4}))),
	} {
		if s, e := core.Text(a, x); s != want || e != api.OK {
			t.Errorf("Text of %v: %s, %v, not %s", x, s, e, want)
		}
		if y, e := core.Parse(a, want); !sameTerm(x, y) || e != api.OK {
			t.Errorf("Parse of %s: %v, %v", want, y, e)
		}
	}
	if s, e := core.Text(a, get); s != "" || e != api.ErrForm {
		t.Errorf("Text of what is not right: %s, %v", s, e)
	}
}

// P7.4: what is no text, or that of no term that is right.
func TestBadTexts(t *testing.T) {
	a := place(t, example)
	for _, s := range []string{
		"", " ", "hang ", " hang", "hang()", "hang(", "hang)", "(hang)", "hang,hang", "hang\n", "Hang", "han", "hangs", "hang/0", "hang0",
		"0/1()", "00/1", "0/01", "0 /1", "+0/1", "-0/1", "0/+1", "0", "/", "0/", "/1", "0/1/1", "0/1/0", "1/1", "-1/1", "0/0", "0/65", "0x0/1", "0/9223372036854775808", "9223372036854775808/1", "0/99999999999999999999999",
		"x", "x01", "x-1", "x9", "x1(", "x1()", "x1(hang)", "X1", "x 1", "xI", "!I", "add/M(hang,hang)", "as/0(hang)", "as/65(hang)", "as/1(hang,hang)", "as/1", "as1(hang)", "as/(hang)",
		"seq", "seq()", "seq(hang)", "seq(hang,)", "seq(,hang)", "seq(hang,hang", "seq(hang,hang,)", "seq(hang,hang,hang)", "seq(hang hang)", "seq(hang,hang))", "seq((hang,hang))", "seq(hang,hang)hang", "seq/1(hang,hang)", "seq,hang,hang",
		"add/3(hang,hang)", "and(hang,hang)", "op/1/3(!2,!2)", "not(hang)", "mod/3(!2,!2)", "skip", "true", "label(jump/1,hang)", "label(jump/-1,hang)", "label(jump,hang)", "jump/0", "label(hang,jump/0)",
		"new/2/0", "new/2(hang)", "new/2/2(hang)", "new/0/0(hang)", "new/65/0(hang)", "new/2/0/0(hang)", "notice/2/0(hang)", "new/2/0(notice/4(hang))", "obj(hang,hang)", "&2", "#1", "#", "&", "=2", "=2()", "=(hang)", "!", "!2", "x3(!2)", "x3(!2,&2)", "x3(&2,!2)",
		"\x00", "\xff", "hang\x00", "seq(hang,\xffhang)", strings.Repeat("(", 9000), strings.Repeat("as/1(", 1800), strings.Repeat("9", 9000), strings.Repeat(",", 9000),
	} {
		if x, e := core.Parse(a, s); e != api.ErrForm || !sameTerm(x, api.Term{}) {
			t.Errorf("Parse of %.40q: %v, %v", s, x, e)
		}
	}
}

// P7.4: the errors of Parse, in their order.
func TestErrorsOfParse(t *testing.T) {
	a := place(t, "int 1")
	long := strings.Repeat("x", api.MaxCoreText)
	for i, x := range []struct {
		a api.Arena
		s string
		e api.Errno
	}{
		{api.Arena{}, long + "x", api.ErrForm},
		{api.Arena{Ids: make([]api.Type, 9)}, "hang", api.ErrLimit},
		{a, long + "x", api.ErrLimit},
		{a, long, api.ErrForm},
		{a, strings.Repeat("as/1(", 599) + "hang" + strings.Repeat(")", 599), api.OK},
		{a, strings.Repeat("as/1(", 600) + "hang" + strings.Repeat(")", 600), api.ErrForm},
		{a, strings.Repeat("seq(0/1,", 300) + "hang" + strings.Repeat(")", 300), api.ErrForm},
		{a, strings.Repeat("seq(0/1,", 299) + "hang" + strings.Repeat(")", 299), api.OK},
	} {
		if _, e := core.Parse(x.a, x.s); e != x.e {
			t.Errorf("%d: Parse: %v, not %v", i, e, x.e)
		}
	}
}

// P7.4: no term that is right has a text that Parse does not take, since the longest one fits.
func TestLongestText(t *testing.T) {
	a := place(t, "int 64; int 1; int 1; int 1; int 1; int 1; int 1; int 1; int 1")
	x := api.Term{Kind: api.TermNum, N: 63, M: 64}
	for range 600 - 1 - 92 {
		x = api.Term{Kind: api.TermNotice, Id: 100, N: 63, Kids: []api.Term{x}}
	}
	for range 92 {
		x = api.Term{Kind: api.TermNew, N: 64, M: 63, Kids: []api.Term{x}}
	}
	s := text(t, a, x)
	if y, e := core.Parse(a, s); e != api.OK || !sameTerm(x, y) || len(s) < 8500 {
		t.Errorf("%d bytes: %v", len(s), e)
	}
}

// spoiled returns a text with another byte, without one, or with one more.
func spoiled(r *rand.Rand, s string) string {
	at := r.Intn(len(s))
	x := string(pick(r, []byte("0123456789/(),x!=#&adlseqifwhnojptubc \n")...))
	switch r.Intn(3) {
	case 0:
		return s[:at] + x + s[at+1:]
	case 1:
		return s[:at] + s[at+1:]
	}
	return s[:at] + x + s[at:]
}

// P7.8: Parse of a text is its term; each term has a text of its own; what Parse takes has the text that it took.
func TestThereAndBack(t *testing.T) {
	r := source(20)
	taken := 0
	for range 1500 {
		a, x := randomTerm(r)
		s := text(t, a, x)
		if y, e := core.Parse(a, s); e != api.OK || !sameTerm(x, y) {
			t.Fatalf("Parse of %s: %v, %v, not %v", s, y, e, x)
		}
		if y := bent(r, x); core.Check(a, y) == api.OK && sameTerm(x, y) != (text(t, a, y) == s) {
			t.Fatalf("%v and %v: %s", x, y, s)
		}
		for range 10 {
			bad := spoiled(r, s)
			if y, e := core.Parse(a, bad); e == api.OK {
				taken++
				if text(t, a, y) != bad {
					t.Fatalf("Parse of %s: %v", bad, y)
				}
			}
		}
	}
	if taken < 100 {
		t.Errorf("%d spoiled texts are those of a term", taken)
	}
}

// P7.8: all terms of some nodes have different texts.
func TestDifferentTexts(t *testing.T) {
	a := place(t, "int 2; int 2; cell 2; (int 2) -> int 2")
	r := source(21)
	terms := map[string]api.Term{}
	for range 20000 {
		w := &writer{r: r, a: a}
		x := w.term(2, r.Intn(3))
		s := text(t, a, x)
		if y, ok := terms[s]; ok && !sameTerm(x, y) {
			t.Fatalf("%s is the text of %v and %v", s, x, y)
		}
		terms[s] = x
	}
	if len(terms) < 3000 {
		t.Errorf("%d terms", len(terms))
	}
}

// R3: nil and empty lists are the same.
func TestNilAndEmpty(t *testing.T) {
	a := api.Arena{Ids: []api.Type{{Params: []api.Base{}, Result: integer(1)}}, Root: integer(1)}
	b := api.Arena{Ids: []api.Type{{Result: integer(1)}}, Root: integer(1)}
	empty := api.Term{Kind: api.TermUse, Id: 1, Kids: []api.Term{}}
	bare := api.Term{Kind: api.TermUse, Id: 1}
	for _, a := range []api.Arena{a, b} {
		for _, x := range []api.Term{empty, bare} {
			s, e := core.Text(a, x)
			tree, f := core.Tree(a, x)
			l, g := core.Uses(a, x)
			if s != "x1" || e != api.OK || f != api.OK || printed(tree) != "import x1:com;\nexport main():com=x1;\n" || !slices.Equal(l, []int{1}) || g != api.OK {
				t.Errorf("%v in %v: %s, %v, %s, %v, %v, %v", x, a, s, e, printed(tree), f, l, g)
			}
		}
	}
	for _, to := range [][]int{nil, {}} {
		if _, x, e := core.Renumber(api.Arena{Root: integer(1)}, api.Term{Kind: api.TermHang}, to); e != api.OK || x.Kind != api.TermHang {
			t.Errorf("Renumber: %v, %v", x, e)
		}
	}
}
