package core

import "riposte/api"

// form is what terms of a kind, or of an operation, look like.
type form struct {
	api.Term        // its Kind, and the N of an operation
	text     string // without kids; I, N and M stand for the fields that there are
	kids     int    // how many; anyKids, if that hangs on the identifier
}

const anyKids = -1

// forms returns the forms of all terms.
func forms() []form {
	kind := func(k uint8) api.Term { return api.Term{Kind: k} }
	operation := func(n int) api.Term { return api.Term{Kind: api.TermOp, N: n} }
	return []form{
		{kind(api.TermNum), "N/M", 0},
		{kind(api.TermUse), "xI", anyKids},
		{kind(api.TermGet), "!I", 0},
		{kind(api.TermPut), "=I", 1},
		{operation(api.OpAdd), "add/M", 2},
		{operation(api.OpSub), "sub/M", 2},
		{operation(api.OpMul), "mul/M", 2},
		{operation(api.OpEq), "eq/M", 2},
		{operation(api.OpLess), "less/M", 2},
		{kind(api.TermAs), "as/N", 1},
		{kind(api.TermSeq), "seq", 2},
		{kind(api.TermIf), "if", 3},
		{kind(api.TermWhile), "while", 2},
		{kind(api.TermNew), "new/N/M", 1},
		{kind(api.TermLabel), "label", 2},
		{kind(api.TermJump), "jump/N", 0},
		{kind(api.TermChoose), "choose", 2},
		{kind(api.TermNotice), "notice/I/N", 1},
		{kind(api.TermHang), "hang", 0},
		{kind(api.TermVal), "#I", 0},
		{kind(api.TermCell), "&I", 0},
		{kind(api.TermObject), "obj", 2},
	}
}

// formOf returns the form of a term, if there is one.
func formOf(forms []form, t api.Term) (form, bool) {
	for _, f := range forms {
		if f.Kind == t.Kind && (f.Kind != api.TermOp || f.N == t.N) {
			return f, true
		}
	}
	return form{}, false
}

// field returns the field of a term for which a letter of a form stands; nil if it stands for none.
func field(t *api.Term, letter byte) *int {
	switch letter {
	case 'I':
		return &t.Id
	case 'N':
		return &t.N
	case 'M':
		return &t.M
	}
	return nil
}

// fits tells whether a term has no other fields than its form, and as many kids.
func (f form) fits(t api.Term) bool {
	same := f.Term
	for _, c := range []byte(f.text) {
		if x := field(&same, c); x != nil {
			*x = *field(&t, c)
		}
	}
	return same.Id == t.Id && same.N == t.N && same.M == t.M && (f.kids == anyKids || f.kids == len(t.Kids))
}
