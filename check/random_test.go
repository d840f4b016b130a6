package check_test

import (
	"math/rand"
	"slices"
	"strconv"

	"riposte/api"
	"riposte/parse"
)

// known is a declaration that is in sight where a term is written.
type known struct {
	name   string
	kind   uint8
	params []api.Type // of a call
	typ    api.Type
	typed  bool
}

// writer writes random programs without errors. At of a term is the size that it was written for, and -1 if it has none.
type writer struct {
	r     *rand.Rand
	names int
	sight []known
}

// size returns a random size; small ones come often.
func (w *writer) size() int { return pick(w.r, 1, 1, 2, 2, 3, 3, 4, 64) }

func (w *writer) name() string {
	w.names++
	return "v" + strconv.Itoa(w.names)
}

// with writes something where more declarations are in sight.
func (w *writer) with(l []known, write func() []api.TreeNode) []api.TreeNode {
	before := len(w.sight)
	w.sight = append(w.sight, l...)
	x := write()
	w.sight = w.sight[:before]
	return x
}

// find returns a random declaration in sight that is right for something.
func (w *writer) find(right func(known) bool) (known, bool) {
	var l []known
	for _, x := range w.sight {
		if right(x) {
			l = append(l, x)
		}
	}
	if len(l) == 0 {
		return known{}, false
	}
	return pick(w.r, l...), true
}

func plainKind(x known) bool { return x.typed && len(x.typ.Params) == 0 }

func (w *writer) integer(size int) (known, bool) {
	return w.find(func(x known) bool { return plainKind(x) && x.typ.Result == api.Base{N: size} })
}

func (w *writer) cell(size int) (known, bool) {
	return w.find(func(x known) bool { return plainKind(x) && x.typ.Result == api.Base{Cell: true, N: size} })
}

// leaf writes a term of a size without kids; with own one that has an own size.
func (w *writer) leaf(size int, own bool) []api.TreeNode {
	x := api.TreeNode{At: size}
	if d, ok := w.integer(size); ok && w.r.Intn(2) == 0 {
		x.Kind, x.Text = api.NameNode, d.name
		return node(x)
	}
	if d, ok := w.cell(size); ok && w.r.Intn(2) == 0 {
		x.Kind, x.Text = api.GetNode, d.name
		return node(x)
	}
	label, ok := w.find(func(x known) bool { return x.kind == api.LabelNode })
	switch {
	case ok && size == 1 && w.r.Intn(2) == 0:
		x.Kind, x.Text = api.JumpNode, label.name
	case size == 1 && w.r.Intn(2) == 0:
		x.Kind = pick(w.r, api.SkipNode, api.HangNode)
	case size == 2 && w.r.Intn(2) == 0:
		x.Kind = pick(w.r, api.TrueNode, api.FalseNode)
	case own:
		x.Kind, x.N = api.AsNode, size
		return node(x, node(api.TreeNode{Kind: api.NumNode, N: pick(w.r, 0, 1, size, 1000000), At: size}))
	default:
		x.Kind, x.N = api.NumNode, w.r.Intn(size)
	}
	return node(x)
}

// pair writes two terms of a size; with own one of them has an own size.
func (w *writer) pair(size, depth int, own bool) [][]api.TreeNode {
	first := w.r.Intn(2) == 0
	return [][]api.TreeNode{w.term(size, depth, own && first), w.term(size, depth, own && !first)}
}

// term writes a term of a size; with own one that has an own size.
func (w *writer) term(size, depth int, own bool) []api.TreeNode {
	if depth <= 0 {
		return w.leaf(size, own)
	}
	x := api.TreeNode{At: size}
	depth--
	switch w.r.Intn(12) {
	case 0:
		x.Kind = api.SeqNode
		l := [][]api.TreeNode{w.term(1, depth, false)}
		for range w.r.Intn(2) {
			l = append(l, w.term(1, depth, false))
		}
		return node(x, append(l, w.term(size, depth, own))...)
	case 1:
		x.Kind = api.IfNode
		l := [][]api.TreeNode{w.term(w.size(), depth, true)}
		return node(x, append(l, w.pair(size, depth, own)...)...)
	case 2:
		x.Kind = pick(w.r, api.AddNode, api.SubNode, api.MulNode, api.ChooseNode)
		return node(x, w.pair(size, depth, own)...)
	case 3:
		x.Kind, x.N = api.AsNode, size
		return node(x, w.term(w.size(), depth, true))
	case 4, 5:
		if l := w.call(size, depth); l != nil {
			return l
		}
	case 6:
		return w.newCell(x, depth, own)
	case 7:
		return w.label(x, depth, own)
	case 8:
		if l := w.notice(x, depth, own); l != nil {
			return l
		}
	}
	if l := w.special(size, depth); l != nil {
		return l
	}
	return w.leaf(size, own)
}

// special writes a term as there is only of the sizes 1 and 2; all of them have an own size.
func (w *writer) special(size, depth int) []api.TreeNode {
	x := api.TreeNode{At: size}
	kind := w.r.Intn(3)
	switch {
	case size == 1 && kind == 0:
		x.Kind = api.WhileNode
		return node(x, w.term(w.size(), depth, true), w.term(1, depth, false))
	case size == 1 && kind == 1:
		if d, ok := w.find(func(x known) bool { return plainKind(x) && x.typ.Result.Cell }); ok {
			x.Kind, x.Text = api.PutNode, d.name
			return node(x, w.term(d.typ.Result.N, depth, false))
		}
	case size == 2 && kind == 0:
		x.Kind = pick(w.r, api.EqNode, api.LessNode)
		return node(x, w.pair(w.size(), depth, true)...)
	case size == 2 && kind == 1:
		x.Kind = pick(w.r, api.OrNode, api.AndNode)
		return node(x, w.pair(2, depth, false)...)
	case size == 2:
		x.Kind = api.NotNode
		return node(x, w.term(2, depth, false))
	}
	return nil
}

func (w *writer) newCell(x api.TreeNode, depth int, own bool) []api.TreeNode {
	size := x.At
	x.Kind, x.Text, x.N = api.NewNode, w.name(), w.size()
	x.M = w.r.Intn(x.N)
	d := known{name: x.Text, kind: x.Kind, typ: cell(x.N), typed: true}
	return node(x, w.with([]known{d}, func() []api.TreeNode { return w.term(size, depth, own) }))
}

func (w *writer) label(x api.TreeNode, depth int, own bool) []api.TreeNode {
	size := x.At
	x.Kind, x.Text = api.LabelNode, w.name()
	first := w.r.Intn(2) == 0
	d := known{name: x.Text, kind: x.Kind}
	inner := w.with([]known{d}, func() []api.TreeNode { return w.term(size, depth, own && first) })
	return node(x, inner, w.term(size, depth, own && !first))
}

func (w *writer) notice(x api.TreeNode, depth int, own bool) []api.TreeNode {
	d, ok := w.find(func(x known) bool { return x.kind == api.NewNode })
	if !ok {
		return nil
	}
	x.Kind, x.Text, x.N = api.NoticeNode, d.name, w.r.Intn(d.typ.Result.N)
	return node(x, w.term(x.At, depth, own))
}

func (w *writer) call(size, depth int) []api.TreeNode {
	d, ok := w.find(func(x known) bool { return len(x.params) > 0 && x.typ.Result.N == size })
	if !ok {
		return nil
	}
	var l [][]api.TreeNode
	for _, p := range d.params {
		l = append(l, w.argument(p, depth))
	}
	return node(api.TreeNode{Kind: api.CallNode, Text: d.name, At: size}, l...)
}

// argument writes an argument for a param.
func (w *writer) argument(p api.Type, depth int) []api.TreeNode {
	if len(p.Params) == 0 && !p.Result.Cell {
		return w.term(p.Result.N, depth, false)
	}
	d, ok := w.find(func(x known) bool { return x.typed && sameType(x.typ, p) })
	if ok && w.r.Intn(3) > 0 {
		return node(api.TreeNode{Kind: api.NameNode, Text: d.name, At: -1})
	}
	if len(p.Params) == 0 {
		get := w.term(p.Result.N, depth, false)
		v := known{name: w.name(), kind: api.BindNode, typ: integer(p.Result.N), typed: true}
		put := w.with([]known{v}, func() []api.TreeNode { return w.term(1, depth, false) })
		return node(api.TreeNode{Kind: api.ObjectNode}, get, node(api.TreeNode{Kind: api.BindNode, Text: v.name}), put)
	}
	var l [][]api.TreeNode
	var binds []known
	for _, b := range p.Params {
		v := known{name: w.name(), kind: api.BindNode, typ: api.Type{Result: b}, typed: true}
		l, binds = append(l, node(api.TreeNode{Kind: api.BindNode, Text: v.name})), append(binds, v)
	}
	l = append(l, w.with(binds, func() []api.TreeNode { return w.term(p.Result.N, depth, false) }))
	return node(api.TreeNode{Kind: api.FnNode}, l...)
}

// base returns a random base type; cells now and then.
func (w *writer) base() api.Type {
	if w.r.Intn(3) == 0 {
		return cell(w.size())
	}
	return integer(w.size())
}

func (w *writer) typ() api.Type {
	if w.r.Intn(3) > 0 {
		return w.base()
	}
	l := []api.Type{w.base()}
	for range w.r.Intn(2) {
		l = append(l, w.base())
	}
	return arrow(append(l, integer(w.size()))...)
}

// typeNodes returns the nodes that say a type.
func typeNodes(t api.Type) []api.TreeNode {
	base := func(b api.Base) []api.TreeNode {
		if b.Cell {
			return node(api.TreeNode{Kind: api.CellType, N: b.N})
		}
		return node(api.TreeNode{Kind: api.IntType, N: b.N})
	}
	if len(t.Params) == 0 {
		return base(t.Result)
	}
	var l [][]api.TreeNode
	for _, b := range t.Params {
		l = append(l, base(b))
	}
	return node(api.TreeNode{Kind: api.ArrowType}, append(l, base(t.Result))...)
}

// calls returns the params of a call of something with a type.
func calls(t api.Type) []api.Type {
	var l []api.Type
	for _, b := range t.Params {
		l = append(l, api.Type{Result: b})
	}
	return l
}

// item writes an item; what it declares is in sight behind it, unless it is an export.
func (w *writer) item(name string, depth int) []api.TreeNode {
	kind := pick(w.r, api.ImportItem, api.DefItem, api.DefItem, api.ExportItem)
	if kind == api.ImportItem {
		t := w.typ()
		w.sight = append(w.sight, known{name: name, kind: kind, params: calls(t), typ: t, typed: true})
		return node(api.TreeNode{Kind: kind, Text: name}, typeNodes(t))
	}
	w.names = 0
	var l [][]api.TreeNode
	var params []known
	d := known{name: name, kind: kind, typ: integer(w.size()), typed: true}
	for range w.r.Intn(4) {
		t := w.typ()
		p := known{name: w.name(), kind: api.ParamNode, params: calls(t), typ: t, typed: true}
		params = append(params, p)
		d.params = append(d.params, t)
		d.typed = d.typed && len(t.Params) == 0
		d.typ.Params = append(d.typ.Params, t.Result)
		l = append(l, node(api.TreeNode{Kind: api.ParamNode, Text: p.name}, typeNodes(t)))
	}
	l = append(l, typeNodes(integer(d.typ.Result.N)))
	l = append(l, w.with(params, func() []api.TreeNode { return w.term(d.typ.Result.N, depth, false) }))
	if kind == api.DefItem {
		w.sight = append(w.sight, d)
	}
	return node(api.TreeNode{Kind: kind, Text: name}, l...)
}

// rightProgram returns a random program without errors.
func rightProgram(r *rand.Rand) api.Tree {
	for {
		w := &writer{r: r}
		var l [][]api.TreeNode
		for k := range r.Intn(8) {
			l = append(l, w.item("i"+strconv.Itoa(k), 1+r.Intn(5)))
		}
		if x := program(l...); len(x.Nodes) <= 250 && parse.Check(x) == api.OK {
			return x
		}
	}
}

// families are kinds with the same fields and kids.
var families = [][]uint8{
	{api.DefItem, api.ExportItem}, {api.IntType, api.CellType},
	{api.SeqNode, api.WhileNode, api.ChooseNode, api.OrNode, api.AndNode, api.EqNode, api.LessNode, api.AddNode, api.SubNode, api.MulNode},
	{api.TrueNode, api.FalseNode, api.SkipNode, api.HangNode}, {api.JumpNode, api.GetNode, api.NameNode},
}

// some returns a random node of those for which something is so; the node 0 if there is none.
func some(r *rand.Rand, l []api.TreeNode, so func(api.TreeNode) bool) int {
	var found []int
	for n, x := range l {
		if so(x) {
			found = append(found, n)
		}
	}
	return pick(r, append(found, 0)[:max(len(found), 1)]...)
}

// bend changes something of a tree, which may have an error then.
func bend(r *rand.Rand, x api.Tree) api.Tree {
	l := slices.Clone(x.Nodes)
	n := r.Intn(len(l))
	switch r.Intn(5) {
	case 0:
		n = some(r, l, func(y api.TreeNode) bool { return y.N > 0 })
		l[n].N = pick(r, 0, l[n].N-1, l[n].N+1, 1, 2, 64, 65)
	case 1:
		n = some(r, l, func(y api.TreeNode) bool { return y.Kind == api.NewNode })
		l[n].M = pick(r, 0, l[n].N-1, l[n].N)
	case 2:
		named := func(y api.TreeNode) bool { return y.Text != "" }
		n = some(r, l, named)
		l[n].Text = pick(r, l[some(r, l, named)].Text, l[some(r, l, named)].Text, "other")
	case 3:
		for _, f := range families {
			if slices.Contains(f, l[n].Kind) {
				l[n].Kind = pick(r, f...)
			}
		}
	case 4:
		k := r.Intn(len(l))
		sub, _ := parse.Sub(x, k)
		if y, e := parse.Graft(x, n, sub); e == api.OK && len(y.Nodes) <= 250 {
			return y
		}
	}
	return api.Tree{Nodes: l}
}

// anyProgram returns a random program, which has errors or not.
func anyProgram(r *rand.Rand) api.Tree {
	x := rightProgram(r)
	for range r.Intn(4) {
		if y := bend(r, x); parse.Check(y) == api.OK {
			x = y
		}
	}
	return x
}
