package check

import "riposte/api"

// fit is an item whose terms are given their sizes.
type fit struct {
	scope
	item  int
	rules map[uint8]rule
	given map[int]int  // the size that each term is given
	wrong map[int]bool // the nodes that are not of the type that is needed
}

func newFit(s scope, item int) *fit {
	f := &fit{s, item, rules(), map[int]int{}, map[int]bool{}}
	if !s.is(item, api.DefItem, api.ExportItem) {
		return f
	}
	base := f.itemBase(item)
	if f.is(base, api.CellType) {
		f.wrong[base] = true
	}
	f.give(f.number(base), f.lastKid(item))
	return f
}

// own returns the own size of the first one of some terms that has one; 0 if none has one.
func (f *fit) own(terms ...int) int {
	for _, n := range terms {
		own := f.rules[f.Nodes[n].Kind].own
		if own == nil {
			continue
		}
		if size := own(f, n); size != 0 {
			return size
		}
	}
	return 0
}

// give gives some terms a size. What stands in a node that is wrong is given none.
func (f *fit) give(size int, terms ...int) {
	for _, n := range terms {
		r := f.rules[f.Nodes[n].Kind]
		f.given[n] = size
		switch {
		case !f.isTerm(n) || r.fits != nil && !r.fits(f, n, size):
			f.wrong[n] = true
		case r.give != nil:
			r.give(f, n, size)
		default:
			f.give(size, f.kidList(n)...)
		}
	}
}

// giveOwn gives a term its own size, which it must have.
func (f *fit) giveOwn(n int) {
	size := f.own(n)
	if size == 0 {
		f.wrong[n] = true
		return
	}
	f.give(size, n)
}

func (f *fit) giveSeq(n, size int) {
	l := f.kidList(n)
	last := len(l) - 1
	f.give(1, l[:last]...)
	f.give(size, l[last])
}

// giveTested gives sizes to a condition, and to what is executed by it.
func (f *fit) giveTested(n, size int) {
	l := f.kidList(n)
	f.giveOwn(l[0])
	f.give(size, l[1:]...)
}

func (f *fit) givePut(n, _ int) {
	t, _ := f.typeOf(f.meant[n])
	f.give(t.Result.N, f.kidList(n)...)
}

func (f *fit) giveCompared(n, _ int) {
	l := f.kidList(n)
	f.give(f.own(l...), l...)
}

func (f *fit) giveCast(n, size int) {
	k := f.lastKid(n)
	if f.is(k, api.NumNode) {
		// It has this size, but need not be less: its value is taken modulo the size.
		f.given[k] = size
		return
	}
	f.giveOwn(k)
}

func (f *fit) giveArguments(n, _ int) {
	params := f.params(f.meant[n])
	for i, k := range f.kidList(n) {
		f.giveArgument(k, params[i])
	}
}

// giveArgument gives sizes to an argument for a param, or to what stands in it.
func (f *fit) giveArgument(n int, p api.Type) {
	kids := f.kidList(n)
	switch {
	case isInteger(p):
		f.give(p.Result.N, n)
	case f.is(n, api.NameNode) && f.meansSame(n, p):
		// What is handed on as it is has no size.
	case f.is(n, api.FnNode) && len(p.Params) == len(kids)-1:
		f.give(p.Result.N, f.lastKid(n))
	case f.is(n, api.ObjectNode) && isCell(p):
		f.give(p.Result.N, kids[0])
		f.give(1, kids[2])
	default:
		f.wrong[n] = true
	}
}

// meansSame tells whether a node means a declaration with a type.
func (f *fit) meansSame(n int, p api.Type) bool {
	t, ok := f.typeOf(f.meant[n])
	return ok && sameType(t, p)
}
