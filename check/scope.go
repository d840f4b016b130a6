package check

import (
	"iter"
	"slices"

	"riposte/api"
)

// span is where a declaration is in sight: at the nodes from one up to, but not with, another one.
type span struct{ from, to int }

func (x span) has(n int) bool { return x.from <= n && n < x.to }

// scope is a tree that knows what is above each node, and where declarations are in sight.
type scope struct {
	api.Tree
	up    []int  // the node whose kid each node is; of the node 0 this itself
	sight []span // where each declaration is in sight
	meant []int  // the declaration that each node means; 0, which is none, if it means nothing
}

func newScope(t api.Tree) scope {
	many := len(t.Nodes)
	s := scope{t, make([]int, many), make([]span, many), make([]int, many)}
	named := map[string][]int{}
	for n := range many {
		for k := range s.kids(n) {
			s.up[k] = n
		}
		name := t.Nodes[n].Text
		if s.declares(n) {
			s.sight[n] = s.sightOf(n)
			named[name] = append(named[name], n)
		}
		// What is in sight at a node stands in front of it, so it is known by now.
		if s.mentions(n) {
			s.meant[n] = s.nearest(n, named[name])
		}
	}
	return s
}

// end returns the node behind all that is in a node.
func (s scope) end(n int) int { return n + s.Nodes[n].Size }

// kids yields the kids of a node.
func (s scope) kids(n int) iter.Seq[int] {
	return func(yield func(int) bool) {
		for k := n + 1; k < s.end(n); k = s.end(k) {
			if !yield(k) {
				return
			}
		}
	}
}

func (s scope) kidList(n int) []int { return slices.Collect(s.kids(n)) }

func (s scope) lastKid(n int) int {
	l := s.kidList(n)
	return l[len(l)-1]
}

// is tells whether a node is of one of some kinds.
func (s scope) is(n int, kinds ...uint8) bool { return slices.Contains(kinds, s.Nodes[n].Kind) }

func (s scope) isItem(n int) bool {
	return s.is(n, api.ImportItem, api.DefItem, api.ExportItem)
}

func (s scope) isTerm(n int) bool {
	return s.Nodes[n].Kind >= api.SeqNode && s.Nodes[n].Kind <= api.CallNode
}

// itemOf returns the item in which a node is that is not the program.
func (s scope) itemOf(n int) int {
	for s.up[n] != 0 {
		n = s.up[n]
	}
	return n
}

func (s scope) declares(n int) bool {
	return s.isItem(n) || s.is(n, api.ParamNode, api.NewNode, api.LabelNode, api.BindNode)
}

// mentions tells whether a node is one that means a declaration.
func (s scope) mentions(n int) bool {
	return s.is(n, api.NameNode, api.CallNode, api.GetNode, api.PutNode, api.NoticeNode, api.JumpNode)
}

func (s scope) whole(n int) span { return span{n, s.end(n)} }

// sightOf returns where a declaration is in sight.
func (s scope) sightOf(n int) span {
	switch s.Nodes[n].Kind {
	case api.ImportItem, api.DefItem:
		return span{s.end(n), len(s.Nodes)}
	case api.ParamNode, api.BindNode:
		// The term of an item, or of a FnNode, and what an ObjectNode does when it is put, are the last kids.
		return s.whole(s.lastKid(s.up[n]))
	case api.NewNode, api.LabelNode:
		return s.whole(n + 1)
	}
	return span{}
}

// nearest returns which one of the declarations with its name a node means.
func (s scope) nearest(n int, named []int) int {
	for _, d := range slices.Backward(named) {
		if s.sight[d].has(n) && s.is(d, api.LabelNode) == s.is(n, api.JumpNode) {
			return d
		}
	}
	return 0
}

// inSight returns the declarations that are in sight at a node.
func (s scope) inSight(n int) []int {
	var l []int
	for d, x := range s.sight {
		if x.has(n) {
			l = append(l, d)
		}
	}
	return l
}

// uses returns the nodes that mean a declaration.
func (s scope) uses(d int) []int {
	var l []int
	for n, x := range s.meant {
		if x == d {
			l = append(l, n)
		}
	}
	return l
}
