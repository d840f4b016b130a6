package check_test

import (
	"slices"

	"riposte/api"
)

// model says what the chapter says, slowly, each time anew.
type model struct{ l []api.TreeNode }

func (m model) kids(n int) []int {
	var l []int
	for k := n + 1; k < n+m.l[n].Size; k += m.l[k].Size {
		l = append(l, k)
	}
	return l
}

func (m model) in(k, n int) bool { return n <= k && k < n+m.l[n].Size }

func (m model) up(n int) int {
	for k := n - 1; k >= 0; k-- {
		if m.in(n, k) {
			return k
		}
	}
	return -1
}

func (m model) item(n int) int {
	for _, k := range m.kids(0) {
		if m.in(n, k) {
			return k
		}
	}
	return -1
}

func (m model) isItem(n int) bool { return n > 0 && m.up(n) == 0 }

func (m model) declares(n int) bool {
	return slices.Contains([]uint8{api.ImportItem, api.DefItem, api.ExportItem, api.ParamNode, api.NewNode, api.LabelNode, api.BindNode}, m.l[n].Kind)
}

func (m model) mentions(n int) bool {
	return slices.Contains([]uint8{api.NameNode, api.CallNode, api.GetNode, api.PutNode, api.NoticeNode, api.JumpNode}, m.l[n].Kind)
}

func (m model) isTerm(n int) bool {
	return m.l[n].Kind >= api.SeqNode && m.l[n].Kind <= api.CallNode
}

// sees tells whether a declaration is in sight at a node.
func (m model) sees(d, n int) bool {
	switch m.l[d].Kind {
	case api.ImportItem, api.DefItem:
		return m.item(n) > d
	case api.ParamNode:
		l := m.kids(m.item(d))
		return m.in(n, l[len(l)-1])
	case api.NewNode:
		return m.in(n, m.kids(d)[0])
	case api.LabelNode:
		return m.in(n, m.kids(d)[0])
	case api.BindNode:
		l := m.kids(m.up(d))
		return m.in(n, l[len(l)-1])
	}
	return false
}

func (m model) sight(n int) []int {
	var l []int
	for d := range m.l {
		if m.declares(d) && m.sees(d, n) {
			l = append(l, d)
		}
	}
	return l
}

// means returns the declaration that a node means; -1 if there is none.
func (m model) means(n int) int {
	found := -1
	for _, d := range m.sight(n) {
		isLabel := m.l[d].Kind == api.LabelNode
		if m.l[d].Text == m.l[n].Text && isLabel == (m.l[n].Kind == api.JumpNode) {
			found = d
		}
	}
	return found
}

func (m model) says(n int) api.Type {
	switch m.l[n].Kind {
	case api.IntType:
		return integer(m.l[n].N)
	case api.CellType:
		return cell(m.l[n].N)
	}
	var l []api.Type
	for _, k := range m.kids(n) {
		l = append(l, m.says(k))
	}
	return arrow(l...)
}

// hands returns the types of the params of a call of a declaration.
func (m model) hands(d int) []api.Type {
	var l []api.Type
	if d >= 0 && m.l[d].Kind == api.DefItem {
		for _, k := range m.kids(d) {
			if m.l[k].Kind == api.ParamNode {
				l = append(l, m.says(m.kids(k)[0]))
			}
		}
		return l
	}
	x, _ := m.typeOf(d)
	for _, b := range x.Params {
		l = append(l, api.Type{Result: b})
	}
	return l
}

func (m model) typeOf(d int) (api.Type, bool) {
	if d < 0 {
		return api.Type{}, false
	}
	kids := m.kids(d)
	switch m.l[d].Kind {
	case api.ImportItem, api.ParamNode:
		return m.says(kids[0]), true
	case api.NewNode:
		return cell(m.l[d].N), true
	case api.DefItem, api.ExportItem:
		var l []api.Type
		for _, k := range kids[:len(kids)-2] {
			p := m.says(m.kids(k)[0])
			if len(p.Params) > 0 {
				return api.Type{}, false
			}
			l = append(l, p)
		}
		return arrow(append(l, m.says(kids[len(kids)-2]))...), true
	case api.BindNode:
		return m.bind(d)
	}
	return api.Type{}, false
}

func (m model) bind(n int) (api.Type, bool) {
	argument := m.up(n)
	call := m.up(argument)
	d := m.means(call)
	params := m.hands(d)
	k := slices.Index(m.kids(call), argument)
	if d < 0 || k >= len(params) {
		return api.Type{}, false
	}
	p := params[k]
	if m.l[argument].Kind == api.ObjectNode {
		if p.Result.Cell && len(p.Params) == 0 {
			return integer(p.Result.N), true
		}
		return api.Type{}, false
	}
	if m.l[d].Kind != api.DefItem || len(p.Params) == 0 || len(p.Params) != len(m.kids(argument))-1 {
		return api.Type{}, false
	}
	return api.Type{Result: p.Params[n-argument-1]}, true // BindNodes have no kids
}

// own returns the own size of a term.
func (m model) own(n int) int {
	x, kids := m.l[n], m.kids(n)
	first := func(l ...int) int {
		for _, k := range l {
			if s := m.own(k); s != 0 {
				return s
			}
		}
		return 0
	}
	switch x.Kind {
	case api.TrueNode, api.FalseNode, api.OrNode, api.AndNode, api.NotNode, api.EqNode, api.LessNode:
		return 2
	case api.SkipNode, api.HangNode, api.JumpNode, api.WhileNode, api.PutNode:
		return 1
	case api.AsNode:
		return x.N
	case api.NewNode, api.NoticeNode:
		return m.own(kids[0])
	case api.SeqNode:
		return m.own(kids[len(kids)-1])
	case api.LabelNode, api.ChooseNode, api.AddNode, api.SubNode, api.MulNode:
		return first(kids[0], kids[1])
	case api.IfNode:
		return first(kids[1], kids[2])
	case api.GetNode, api.NameNode:
		t, ok := m.typeOf(m.means(n))
		if ok && len(t.Params) == 0 && t.Result.Cell == (x.Kind == api.GetNode) {
			return t.Result.N
		}
	case api.CallNode:
		return m.result(m.means(n))
	}
	return 0
}

func (m model) result(d int) int {
	if d >= 0 && m.l[d].Kind == api.DefItem {
		kids := m.kids(d)
		return m.l[kids[len(kids)-2]].N
	}
	t, _ := m.typeOf(d)
	return t.Result.N
}

// need is a node and what stands in it: the size that it is given, or its own one, or the param whose argument it is.
type need struct {
	n, size  int
	own, any bool
	param    *api.Type
}

// fits tells whether a term fits, and what its kids need.
func (m model) fits(n, s int) (bool, []need) {
	x, kids := m.l[n], m.kids(n)
	var l []need
	all := func(size int) []need {
		for _, k := range kids {
			l = append(l, need{n: k, size: size})
		}
		return l
	}
	d := -1
	if m.mentions(n) {
		d = m.means(n)
	}
	t, ok := m.typeOf(d)
	isCell := ok && len(t.Params) == 0 && t.Result.Cell
	switch x.Kind {
	case api.NumNode:
		return x.N < s, nil
	case api.TrueNode, api.FalseNode:
		return s == 2, nil
	case api.SkipNode, api.HangNode, api.JumpNode:
		return s == 1, nil
	case api.NameNode:
		return ok && len(t.Params) == 0 && !t.Result.Cell && t.Result.N == s, nil
	case api.GetNode:
		return isCell && t.Result.N == s, nil
	case api.PutNode:
		return isCell && s == 1, all(t.Result.N)
	case api.SeqNode:
		all(1)
		l[len(l)-1].size = s
		return true, l
	case api.IfNode, api.WhileNode:
		all(s)
		l[0] = need{n: kids[0], own: true}
		return x.Kind == api.IfNode || s == 1, l
	case api.NewNode, api.LabelNode, api.ChooseNode, api.AddNode, api.SubNode, api.MulNode:
		return true, all(s)
	case api.NoticeNode:
		return d >= 0 && m.l[d].Kind == api.NewNode && m.l[d].N > x.N, all(s)
	case api.OrNode, api.AndNode, api.NotNode:
		return s == 2, all(2)
	case api.EqNode, api.LessNode:
		own := m.own(kids[0])
		if own == 0 {
			own = m.own(kids[1])
		}
		return s == 2 && own != 0, all(own)
	case api.AsNode:
		k := kids[0]
		isNumber := m.l[k].Kind == api.NumNode
		return s == x.N, []need{{n: k, size: s, own: !isNumber, any: isNumber}}
	case api.CallNode:
		return m.call(d, kids, s)
	}
	return false, nil
}

func (m model) call(d int, kids []int, s int) (bool, []need) {
	params := m.hands(d)
	if len(params) != len(kids) || m.result(d) != s {
		return false, nil
	}
	var l []need
	for i, k := range kids {
		l = append(l, need{n: k, param: &params[i]})
	}
	return true, l
}

// argument tells whether an argument is one for a param, and what stands in it needs.
func (m model) argument(n int, p api.Type) (bool, []need) {
	kids := m.kids(n)
	if len(p.Params) == 0 && !p.Result.Cell {
		return true, []need{{n: n, size: p.Result.N}}
	}
	switch m.l[n].Kind {
	case api.NameNode:
		t, ok := m.typeOf(m.means(n))
		return ok && sameType(t, p), nil
	case api.ObjectNode:
		return len(p.Params) == 0, []need{{n: kids[0], size: p.Result.N}, {n: kids[2], size: 1}}
	case api.FnNode:
		last := len(kids) - 1
		return len(p.Params) == last, []need{{n: kids[last], size: p.Result.N}}
	}
	return false, nil
}

// walk looks at what a node needs, and returns the least node that has ErrType, or -1; it keeps the sizes.
func (m model) walk(x need, sizes map[int]int) int {
	var ok bool
	var more []need
	switch {
	case x.any:
		sizes[x.n] = x.size
		return -1
	case x.param != nil:
		ok, more = m.argument(x.n, *x.param)
	default:
		if x.own {
			x.size = m.own(x.n)
		}
		if x.own && x.size == 0 {
			return x.n
		}
		sizes[x.n] = x.size
		ok, more = m.fits(x.n, x.size)
	}
	if !ok {
		return x.n
	}
	for _, y := range more {
		if n := m.walk(y, sizes); n >= 0 {
			return n
		}
	}
	return -1
}

func (m model) twice(n int) bool {
	item := m.item(n)
	for d := range m.l {
		if n == d || !m.declares(n) || !m.declares(d) || m.l[d].Text != m.l[n].Text {
			continue
		}
		if m.isItem(d) && d < n || m.in(d, item) && d < n || n != item && m.isItem(d) {
			return true
		}
	}
	return false
}

// errorOf returns the error of an item, its node, and the sizes of its terms.
func (m model) errorOf(item int) (int, api.Errno, map[int]int) {
	end := item + m.l[item].Size
	for n := item; n < end; n++ {
		if m.twice(n) {
			return n, api.ErrTwice, nil
		}
	}
	for n := item; n < end; n++ {
		x := m.l[n]
		sized := slices.Contains([]uint8{api.IntType, api.CellType, api.NewNode, api.AsNode}, x.Kind)
		if sized && (x.N < 1 || x.N > 64) || x.Kind == api.NewNode && x.M >= x.N {
			return n, api.ErrRange, nil
		}
	}
	for n := item; n < end; n++ {
		if m.mentions(n) && m.means(n) < 0 {
			return n, api.ErrName, nil
		}
	}
	if m.l[item].Kind == api.ImportItem {
		return 0, api.OK, nil
	}
	kids, sizes := m.kids(item), map[int]int{}
	base, term := kids[len(kids)-2], kids[len(kids)-1]
	if m.l[base].Kind == api.CellType {
		return base, api.ErrType, nil
	}
	if n := m.walk(need{n: term, size: m.l[base].N}, sizes); n >= 0 {
		return n, api.ErrType, nil
	}
	return 0, api.OK, sizes
}

// reach returns the definitions that an item uses.
func (m model) reach(item int) []int {
	all := map[int]bool{}
	var use func(item int)
	use = func(item int) {
		for n := item; n < item+m.l[item].Size; n++ {
			if !m.mentions(n) {
				continue
			}
			if d := m.means(n); d >= 0 && m.l[d].Kind == api.DefItem && !all[d] {
				all[d] = true
				use(d)
			}
		}
	}
	use(item)
	var l []int
	for _, n := range m.kids(0) {
		if all[n] {
			l = append(l, n)
		}
	}
	return l
}

func (m model) effects(item int) int {
	bits := 0
	for _, i := range append(m.reach(item), item) {
		for n := i; n < i+m.l[i].Size; n++ {
			bits |= map[uint8]int{api.NewNode: 1, api.GetNode: 1, api.PutNode: 1, api.NoticeNode: 1, api.JumpNode: 2, api.ChooseNode: 4, api.WhileNode: 8, api.HangNode: 16}[m.l[n].Kind]
		}
	}
	return bits
}
