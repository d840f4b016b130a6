package check

import (
	"slices"

	"riposte/api"
)

// base returns the base type that a node says.
func (s scope) base(n int) api.Base {
	return api.Base{Cell: s.is(n, api.CellType), N: s.Nodes[n].N}
}

// written returns the type that a node says.
func (s scope) written(n int) api.Type {
	if !s.is(n, api.ArrowType) {
		return api.Type{Result: s.base(n)}
	}
	var t api.Type
	result := s.lastKid(n)
	for k := range s.kids(n) {
		if k != result {
			t.Params = append(t.Params, s.base(k))
		}
	}
	t.Result = s.base(result)
	return t
}

// itemBase returns the base of a DefItem or an ExportItem.
func (s scope) itemBase(n int) int {
	l := s.kidList(n)
	return l[len(l)-2]
}

// params returns the types of what a call of a declaration hands over.
func (s scope) params(d int) []api.Type {
	var l []api.Type
	switch s.Nodes[d].Kind {
	case api.DefItem, api.ExportItem:
		for k := range s.kids(d) {
			if s.is(k, api.ParamNode) {
				l = append(l, s.written(k+1))
			}
		}
	case api.ImportItem, api.ParamNode:
		for _, b := range s.written(d + 1).Params {
			l = append(l, api.Type{Result: b})
		}
	}
	return l
}

// typeOf returns the type of a declaration, if it has one.
func (s scope) typeOf(d int) (api.Type, bool) {
	switch s.Nodes[d].Kind {
	case api.ImportItem, api.ParamNode:
		return s.written(d + 1), true
	case api.NewNode:
		return api.Type{Result: api.Base{Cell: true, N: s.Nodes[d].N}}, true
	case api.DefItem, api.ExportItem:
		return s.itemType(d)
	case api.BindNode:
		return s.bindType(d)
	}
	return api.Type{}, false
}

// itemType returns the type of a DefItem or an ExportItem, if its params are bases.
func (s scope) itemType(n int) (api.Type, bool) {
	t := api.Type{Result: s.base(s.itemBase(n))}
	for _, p := range s.params(n) {
		if len(p.Params) > 0 {
			return api.Type{}, false
		}
		t.Params = append(t.Params, p.Result)
	}
	return t, true
}

// bindType returns the type of a BindNode, if it stands in an argument for which a call has a place.
func (s scope) bindType(n int) (api.Type, bool) {
	argument := s.up[n]
	call := s.up[argument]
	k := slices.Index(s.kidList(call), argument)
	params := s.params(s.meant[call])
	if k >= len(params) {
		return api.Type{}, false
	}
	p := params[k]
	kids := s.kidList(argument)
	switch {
	case s.is(argument, api.ObjectNode) && isCell(p):
		return api.Type{Result: api.Base{N: p.Result.N}}, true
	case s.is(argument, api.FnNode) && len(p.Params) == len(kids)-1:
		return api.Type{Result: p.Params[slices.Index(kids, n)]}, true
	}
	return api.Type{}, false
}

func isCell(t api.Type) bool { return len(t.Params) == 0 && t.Result.Cell }

func isInteger(t api.Type) bool { return len(t.Params) == 0 && !t.Result.Cell }

func sameType(x, y api.Type) bool {
	return slices.Equal(x.Params, y.Params) && x.Result == y.Result
}
