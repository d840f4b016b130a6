package core

import (
	"slices"
	"strconv"

	"riposte/api"
	"riposte/parse"
)

// spelling is how the identifiers and the labels in sight are named.
type spelling struct{ ids, labels []string }

// withId returns a spelling with one more identifier, withLabel one with one more label.
func (s spelling) withId(name string) spelling {
	s.ids = append(slices.Clip(s.ids), name)
	return s
}

func (s spelling) withLabel(name string) spelling {
	s.labels = append(slices.Clip(s.labels), name)
	return s
}

// writer writes the nodes of a program.
type writer struct {
	nodes []api.TreeNode
	named int // how many names have been given
}

// programOf returns a program that becomes a term, if there can be such a tree.
func programOf(a api.Arena, t api.Term) (api.Tree, api.Errno) {
	w := &writer{}
	w.add(api.TreeNode{Kind: api.ProgramNode}, func() { w.items(a, t) })
	x := api.Tree{Nodes: w.nodes}
	if e := parse.Check(x); e != api.OK {
		return api.Tree{}, e
	}
	return x, api.OK
}

// add adds a node, and what its kids add.
func (w *writer) add(x api.TreeNode, kids ...func()) {
	n := len(w.nodes)
	w.nodes = append(w.nodes, x)
	for _, kid := range kids {
		kid()
	}
	w.nodes[n].Size = len(w.nodes) - n
}

func (w *writer) items(a api.Arena, t api.Term) {
	var s spelling
	for i, x := range a.Ids {
		s = s.withId("x" + strconv.Itoa(i+1))
		w.add(api.TreeNode{Kind: api.ImportItem, Text: s.ids[i]}, func() { w.sort(x) })
	}
	main := api.TreeNode{Kind: api.ExportItem, Text: "main"}
	w.add(main, func() { w.base(a.Root) }, func() { w.term(t, s) })
}

// sort adds the nodes of a type.
func (w *writer) sort(t api.Type) {
	if len(t.Params) == 0 {
		w.base(t.Result)
		return
	}
	w.add(api.TreeNode{Kind: api.ArrowType}, func() {
		for _, b := range t.Params {
			w.base(b)
		}
		w.base(t.Result)
	})
}

func (w *writer) base(b api.Base) {
	kind := api.IntType
	if b.Cell {
		kind = api.CellType
	}
	w.add(api.TreeNode{Kind: kind, N: b.N})
}

// name returns a name that begins with a letter, and that nothing has yet.
func (w *writer) name(letter string) string {
	w.named++
	return letter + strconv.Itoa(w.named)
}

// term adds the nodes of a term.
func (w *writer) term(t api.Term, s spelling) {
	x := api.TreeNode{Kind: nodeKind(t)}
	if t.Id > 0 {
		x.Text = s.ids[t.Id-1]
	}
	inner := s // what is in sight at the first kid
	switch t.Kind {
	case api.TermNum:
		x.N = t.M
		w.add(x, func() { w.add(api.TreeNode{Kind: api.NumNode, N: t.N}) })
		return
	case api.TermObject:
		w.object(t, s)
		return
	case api.TermNew:
		x.Text, x.N, x.M = w.name("c"), t.N, t.M
		inner = s.withId(x.Text)
	case api.TermLabel:
		x.Text = w.name("l")
		inner = s.withLabel(x.Text)
	case api.TermJump:
		x.Text = s.labels[len(s.labels)-1-t.N]
	case api.TermAs, api.TermNotice:
		x.N = t.N
	}
	w.add(x, func() {
		for _, kid := range t.Kids {
			w.term(kid, inner)
			inner = s
		}
	})
}

// object adds the nodes of a TermObject.
func (w *writer) object(t api.Term, s spelling) {
	get := func() { w.term(t.Kids[0], s) }
	put := func() {
		value := w.name("v")
		w.add(api.TreeNode{Kind: api.BindNode, Text: value})
		w.term(t.Kids[1], s.withId(value))
	}
	w.add(api.TreeNode{Kind: api.ObjectNode}, get, put)
}

// nodeKind returns the kind of the node that becomes a term.
func nodeKind(t api.Term) uint8 {
	switch t.Kind {
	case api.TermOp:
		return [...]uint8{api.OpAdd: api.AddNode, api.OpSub: api.SubNode, api.OpMul: api.MulNode, api.OpEq: api.EqNode, api.OpLess: api.LessNode}[t.N]
	case api.TermUse:
		if len(t.Kids) > 0 {
			return api.CallNode
		}
	}
	return map[uint8]uint8{
		api.TermNum:    api.AsNode,
		api.TermUse:    api.NameNode,
		api.TermGet:    api.GetNode,
		api.TermPut:    api.PutNode,
		api.TermAs:     api.AsNode,
		api.TermSeq:    api.SeqNode,
		api.TermIf:     api.IfNode,
		api.TermWhile:  api.WhileNode,
		api.TermNew:    api.NewNode,
		api.TermLabel:  api.LabelNode,
		api.TermJump:   api.JumpNode,
		api.TermChoose: api.ChooseNode,
		api.TermHang:   api.HangNode,
		api.TermVal:    api.NameNode,
		api.TermCell:   api.NameNode,
		api.TermNotice: api.NoticeNode,
	}[t.Kind]
}
