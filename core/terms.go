package core

import (
	"iter"
	"slices"

	"riposte/api"
)

// nodes yields a term and all that is in it, each before its kids.
func nodes(t api.Term) iter.Seq[api.Term] {
	return func(yield func(api.Term) bool) { eachNode(t, yield) }
}

// eachNode tells whether more is wanted behind a term.
func eachNode(t api.Term, yield func(api.Term) bool) bool {
	wanted := yield(t)
	for k := 0; wanted && k < len(t.Kids); k++ {
		wanted = eachNode(t.Kids[k], yield)
	}
	return wanted
}

// isOrder tells whether a list is the numbers from 1 up to one, in any order.
func isOrder(l []int, many int) bool {
	if len(l) != many {
		return false
	}
	for i, n := range slices.Sorted(slices.Values(l)) {
		if n != i+1 {
			return false
		}
	}
	return true
}

// renumbered returns a term in which the identifiers of the arena have other numbers.
func renumbered(t api.Term, to []int) api.Term {
	if t.Id > 0 && t.Id <= len(to) {
		t.Id = to[t.Id-1]
	}
	kids := t.Kids
	t.Kids = nil
	for _, x := range kids {
		t.Kids = append(t.Kids, renumbered(x, to))
	}
	return t
}
