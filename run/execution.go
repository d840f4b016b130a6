package run

import (
	"riposte/api"
	"riposte/play"
)

// other is the node from which the moves of the other one come: none.
const other = -1

// execution is a program that is executed along a word, and where it stands: how many moves it has followed, from which nodes they came, and the cells of all NewNodes that are being evaluated.
type execution struct {
	program
	api.Turn
	word  api.Word
	legal int // how many moves of the word can come, at most
	picks []int
	from  []int
	cells []*api.CellSeen
	errno api.Errno
}

// follow returns an execution along a word, as far as this goes.
func (p program) follow(w api.Word, picks []int) (*execution, api.Errno) {
	x := &execution{program: p, word: w, legal: len(w), picks: picks}
	// Not all that check lets pass is an arena: where the result of something with params is a cell no move can come.
	if at, e := play.Check(p.Arena, w); e != api.OK {
		x.legal = at
	}
	x.converse()
	return x, x.errno
}

// converse executes the term of the export, when the other one asks for it, and tells how that ends.
func (x *execution) converse() {
	term := x.term()
	if _, ok := term.hears(); !ok {
		return
	}
	end := term.evaluate()
	if end.how == stopped || !term.says(api.Move{Kind: api.MoveTell, N: end.n}) {
		return
	}
	x.State = api.StateOver
	if x.At < len(x.word) {
		x.State = api.StateOdd
	}
}

// term returns the term of the export, where all that is declared outside of it is in sight.
func (x *execution) term() visit {
	v, export, id := visit{execution: x}, 0, 0
	for item := range v.kids {
		switch item.kind() {
		case api.ImportItem:
			id++
			v = v.with(item.name(), x.identifier(id))
		case api.DefItem:
			item.sight = v.sight
			v = v.with(item.name(), item.definition())
		case api.ExportItem:
			if item.name() == x.export {
				export = item.node
			}
		}
	}
	v = v.at(export)
	for param := range v.kids {
		if param.kind() == api.ParamNode {
			id++
			v = v.with(param.name(), x.identifier(id))
		}
	}
	return v.lastKid()
}

// says tells whether a move of the program, which comes from a node, is the next one of the word. If not, the execution stops there.
func (v visit) says(m api.Move) bool {
	isNext := v.At == len(v.word)
	if !isNext && v.word[v.At] != m {
		v.State = api.StateOdd
		return false
	}
	v.from = append(v.from, v.node)
	if !isNext {
		v.At++
		return true
	}
	v.Moves = api.Word{m}
	v.State = api.StateAsks
	if m.Id == 0 {
		v.State = api.StateOver
	}
	return false
}

// hears returns the next move of the word, which is the other one's, if it can come. If not, the execution stops there.
func (v visit) hears() (api.Move, bool) {
	switch v.At {
	case len(v.word):
		v.State = api.StateAsks
		return api.Move{}, false
	case v.legal:
		v.State = api.StateOdd
		return api.Move{}, false
	}
	m := v.word[v.At]
	v.from = append(v.from, other)
	v.At++
	return m, true
}

// store returns the cells that there are.
func (x *execution) store() []api.CellSeen {
	var l []api.CellSeen
	for _, c := range x.cells {
		l = append(l, *c)
	}
	return l
}
