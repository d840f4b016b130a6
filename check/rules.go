package check

import "riposte/api"

// rule is what is so of the terms of a kind.
type rule struct {
	own  func(f *fit, n int) int        // its own size; without it there is none
	fits func(f *fit, n, size int) bool // whether it fits; without it it always does
	give func(f *fit, n, size int)      // gives sizes to what stands in it; without it its kids are given its own one
}

// rules returns the rule of each kind of terms.
func rules() map[uint8]rule {
	plain := rule{own: ownFrom(0)}
	effect := rule{own: fixed(1), fits: only(1)}
	truth := rule{own: fixed(2), fits: only(2)}
	comparison := rule{own: fixed(2), fits: (*fit).compares, give: (*fit).giveCompared}
	return map[uint8]rule{
		api.SeqNode:    {own: (*fit).ownOfLast, give: (*fit).giveSeq},
		api.IfNode:     {own: ownFrom(1), give: (*fit).giveTested},
		api.WhileNode:  {own: fixed(1), fits: only(1), give: (*fit).giveTested},
		api.NewNode:    plain,
		api.LabelNode:  plain,
		api.NoticeNode: {own: ownFrom(0), fits: (*fit).notices},
		api.ChooseNode: plain,
		api.PutNode:    {own: fixed(1), fits: (*fit).puts, give: (*fit).givePut},
		api.OrNode:     truth,
		api.AndNode:    truth,
		api.NotNode:    truth,
		api.EqNode:     comparison,
		api.LessNode:   comparison,
		api.AddNode:    plain,
		api.SubNode:    plain,
		api.MulNode:    plain,
		api.AsNode:     {own: (*fit).number, fits: (*fit).isNumber, give: (*fit).giveCast},
		api.NumNode:    {fits: (*fit).isBelow},
		api.TrueNode:   truth,
		api.FalseNode:  truth,
		api.SkipNode:   effect,
		api.HangNode:   effect,
		api.JumpNode:   effect,
		api.GetNode:    {own: ownMeant(isCell), fits: meansOne(isCell)},
		api.NameNode:   {own: ownMeant(isInteger), fits: meansOne(isInteger)},
		api.CallNode:   {own: (*fit).resultSize, fits: (*fit).calls, give: (*fit).giveArguments},
	}
}

// fixed returns the own size of terms whose size is always the same, only whether they fit.
func fixed(size int) func(*fit, int) int {
	return func(*fit, int) int { return size }
}

func only(size int) func(*fit, int, int) bool {
	return func(_ *fit, _, given int) bool { return given == size }
}

// ownFrom returns the own size of terms that have that of their kids, from one on.
func ownFrom(kid int) func(*fit, int) int {
	return func(f *fit, n int) int { return f.own(f.kidList(n)[kid:]...) }
}

// ownMeant returns the own size of terms that mean something of a kind of base types, meansOne whether they fit.
func ownMeant(right func(api.Type) bool) func(*fit, int) int {
	return func(f *fit, n int) int {
		if t, ok := f.typeOf(f.meant[n]); ok && right(t) {
			return t.Result.N
		}
		return 0
	}
}

func meansOne(right func(api.Type) bool) func(*fit, int, int) bool {
	return func(f *fit, n, size int) bool {
		t, ok := f.typeOf(f.meant[n])
		return ok && right(t) && t.Result.N == size
	}
}

func (f *fit) ownOfLast(n int) int { return f.own(f.lastKid(n)) }

func (f *fit) number(n int) int { return f.Nodes[n].N }

func (f *fit) isNumber(n, size int) bool { return size == f.number(n) }

func (f *fit) isBelow(n, size int) bool { return f.number(n) < size }

func (f *fit) compares(n, size int) bool {
	return size == 2 && f.own(f.kidList(n)...) != 0
}

func (f *fit) notices(n, _ int) bool {
	d := f.meant[n]
	return f.is(d, api.NewNode) && f.number(n) < f.number(d)
}

func (f *fit) puts(n, size int) bool {
	t, ok := f.typeOf(f.meant[n])
	return ok && isCell(t) && size == 1
}

// resultSize returns the size of the result of what a call means.
func (f *fit) resultSize(n int) int {
	d := f.meant[n]
	if f.is(d, api.DefItem) {
		return f.number(f.itemBase(d))
	}
	t, _ := f.typeOf(d)
	return t.Result.N
}

func (f *fit) calls(n, size int) bool {
	return len(f.params(f.meant[n])) == len(f.kidList(n)) && f.resultSize(n) == size
}
