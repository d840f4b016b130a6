package parse

import (
	"iter"
	"slices"
	"strings"

	"riposte/api"
	"riposte/lex"
)

// kidsOf yields the kids of a node of a list whose Sizes are right.
func kidsOf(l []api.TreeNode, n int) iter.Seq[int] {
	return func(yield func(int) bool) {
		end := n + l[n].Size
		for k := n + 1; k < end; k += l[k].Size {
			if !yield(k) {
				return
			}
		}
	}
}

// depths returns how far each node is from the node 0; nothing if the Sizes are not right.
func depths(l []api.TreeNode) []int {
	if len(l) == 0 || l[0].Size != len(l) {
		return nil
	}
	var all, ends []int
	for n, x := range l {
		for len(ends) > 0 && ends[len(ends)-1] == n {
			ends = ends[:len(ends)-1]
		}
		// n + Size might not fit into an int.
		if x.Size < 1 || n > 0 && (len(ends) == 0 || x.Size > ends[len(ends)-1]-n) {
			return nil
		}
		all = append(all, len(ends))
		ends = append(ends, n+x.Size)
	}
	return all
}

// inspector looks at the nodes of a tree whose Sizes are right.
type inspector struct {
	api.Tree
	forms []form
}

// formOf returns the form of a node. Kinds that there are not have that of no node.
func (t inspector) formOf(n int) form {
	if k := int(t.Nodes[n].Kind); k < len(t.forms) {
		return t.forms[k]
	}
	return form{}
}

// isRight tells whether a node has the fields and the kids of its kind, but for what its name is.
func (t inspector) isRight(n int) bool {
	var told api.TreeNode
	x := t.Nodes[n]
	for word, kids := range places(t.formOf(n).layout, slices.Collect(kidsOf(t.Nodes, n))) {
		switch word {
		case "Text":
			told.Text = x.Text
		case "N":
			told.N = x.N
		case "M":
			told.M = x.M
		default:
			if !t.fit(word, kids) {
				return false
			}
		}
	}
	return x.Text == told.Text && x.N == told.N && x.M == told.M && isNumber(x.N) && isNumber(x.M)
}

// fit tells whether kids can stand where a word of a layout is.
func (t inspector) fit(word string, kids []int) bool {
	s, ok := slotOf(word)
	if !ok {
		return len(kids) == 0
	}
	wrong := func(n int) bool { return !s.takes(t.formOf(n).rank) }
	return len(kids) >= s.least && !slices.ContainsFunc(kids, wrong)
}

func isNumber(n int) bool { return n >= 0 && n <= api.MaxNumber }

// hasNames tells whether the names of nodes are names.
func (t inspector) hasNames() bool {
	var l []api.Token
	for n, x := range t.Nodes {
		if strings.Contains(t.formOf(n).layout, "Text") {
			l = append(l, api.Token{Kind: api.TokName, Text: x.Text})
		}
	}
	// Their text as a whole may be too long, but then each is right.
	_, e := lex.Tight(l)
	return e != api.ErrArg
}

// Check returns the error of a tree.
func Check(t api.Tree) api.Errno {
	if len(t.Nodes) > api.MaxNodes {
		return api.ErrLimit
	}
	deep := depths(t.Nodes)
	if deep == nil || t.Nodes[0].Kind != api.ProgramNode {
		return api.ErrForm
	}
	x := inspector{t, forms()}
	for n := range t.Nodes {
		if !x.isRight(n) {
			return api.ErrForm
		}
	}
	if !x.hasNames() {
		return api.ErrForm
	}
	items := 0
	for range kidsOf(t.Nodes, 0) {
		items++
	}
	if slices.Max(deep) > api.MaxDepth || items > api.MaxItems {
		return api.ErrLimit
	}
	return api.OK
}
