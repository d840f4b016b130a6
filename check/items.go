package check

import (
	"slices"

	"riposte/api"
	"riposte/parse"
)

// effects returns the effects of the nodes of an item.
func (s scope) effects(item int) int {
	effects := 0
	for n := item; n < s.end(item); n++ {
		effects |= effect(s.Nodes[n].Kind)
	}
	return effects
}

// effect returns the effect of the nodes of a kind.
func effect(kind uint8) int {
	switch kind {
	case api.NewNode, api.GetNode, api.PutNode, api.NoticeNode:
		return api.EffCells
	case api.JumpNode:
		return api.EffJumps
	case api.ChooseNode:
		return api.EffChoices
	case api.WhileNode:
		return api.EffLoops
	case api.HangNode:
		return api.EffHangs
	}
	return 0
}

// reach returns the definitions that an item uses, by others, too.
func (s scope) reach(item int) []int {
	reached := map[int]bool{item: true}
	var l []int
	// An item uses only those before it, so all that use one are looked at before this.
	for d := item; d > 0; d-- {
		if !reached[d] {
			continue
		}
		if d != item {
			l = append(l, d)
		}
		for _, x := range s.meant[d:s.end(d)] {
			if s.is(x, api.DefItem) {
				reached[x] = true
			}
		}
	}
	slices.Reverse(l)
	return l
}

// export returns the export with a name; 0, which is none, if there is none.
func (s scope) export(name string) int {
	for n := range s.kids(0) {
		if s.is(n, api.ExportItem) && s.Nodes[n].Text == name {
			return n
		}
	}
	return 0
}

// identifiers returns what an export asks: the imports, then its params.
func (s scope) identifiers(export int) []api.Declared {
	var l []api.Declared
	add := func(n int) {
		l = append(l, api.Declared{Name: s.Nodes[n].Text, Type: s.written(n + 1)})
	}
	for n := range s.kids(0) {
		if s.is(n, api.ImportItem) {
			add(n)
		}
	}
	for n := range s.kids(export) {
		if s.is(n, api.ParamNode) {
			add(n)
		}
	}
	return l
}

// isName tells whether a text is a name: whether something can be declared by it.
func isName(s string) bool {
	return parse.Check(api.Tree{Nodes: []api.TreeNode{
		{Kind: api.ProgramNode, Size: 3},
		{Kind: api.ImportItem, Text: s, Size: 2},
		{Kind: api.IntType, N: 1, Size: 1},
	}}) == api.OK
}

// renamed returns the tree in which a declaration, and all that mean it, have a name.
func (s scope) renamed(d int, name string) api.Tree {
	l := slices.Clone(s.Nodes)
	l[d].Text = name
	for _, n := range s.uses(d) {
		l[n].Text = name
	}
	return api.Tree{Nodes: l}
}
