package core

import "riposte/api"

// names are what stands for what: a name, and those around it. In a program without errors no name hides another one.
type names struct {
	text   string
	what   meaning
	around *names
}

// meaning is what a declaration stands for: the terms that come of the nodes that mean it. An identifier of the arena, and a cell, has a number.
type meaning struct {
	isInteger bool
	id        int
	asked     func(by place) api.Term // of a node that asks it
	put       func(by place) api.Term // of a PutNode
	handed    func(by place) api.Term // as an argument that is a cell
}

// meant returns what the name of the node stands for.
func (p place) meant() meaning {
	for l := p.names; l != nil; l = l.around {
		if l.text == p.self().Text {
			return l.what
		}
	}
	return meaning{}
}

// with returns the node where one more name is in sight.
func (p place) with(text string, what meaning) place {
	p.names = &names{text, what, p.names}
	return p
}

// withId returns the node where one more identifier is in sight, of a number that is told.
func (p place) withId() (inner place, id int) {
	p.ids++
	return p, p.ids
}

func (p *program) identifier(id int) meaning {
	t := p.Ids[id-1]
	if len(t.Params) == 0 && t.Result.Cell {
		return cell(id)
	}
	use := func(by place) api.Term {
		var kids []func() api.Term
		for k, b := range t.Params {
			kids = append(kids, by.handOver(k, b))
		}
		return by.term(api.Term{Kind: api.TermUse, Id: id}, kids...)
	}
	return meaning{isInteger: len(t.Params) == 0, asked: use}
}

// handOver returns what makes an argument of the node.
func (p place) handOver(k int, b api.Base) func() api.Term {
	kid := p.kid(k)
	if !b.Cell {
		return kid.take
	}
	return func() api.Term { return kid.argument().handed(p) }
}

func cell(id int) meaning {
	return meaning{
		id:     id,
		asked:  func(by place) api.Term { return by.term(api.Term{Kind: api.TermGet, Id: id}) },
		put:    func(by place) api.Term { return by.term(api.Term{Kind: api.TermPut, Id: id}, by.kid(0).take) },
		handed: func(by place) api.Term { return by.term(api.Term{Kind: api.TermCell, Id: id}) },
	}
}

// value returns what stands for the value of an object: terms of a kind that ask a number.
func value(kind uint8, id int) meaning {
	return meaning{isInteger: true, asked: func(by place) api.Term { return by.term(api.Term{Kind: kind, Id: id}) }}
}

// label returns what a LabelNode stands for that is one of the labels in sight, numbered from 1 on.
func label(number int) meaning {
	return meaning{asked: func(by place) api.Term {
		return by.term(api.Term{Kind: api.TermJump, N: by.labels - number})
	}}
}

func (p place) definition() meaning {
	hasParams := p.kid(0).self().Kind == api.ParamNode
	return meaning{isInteger: !hasParams, asked: p.call}
}

// argument returns what a param stands for where the node is the argument.
func (p place) argument() meaning {
	switch p.self().Kind {
	case api.NameNode:
		if what := p.meant(); !what.isInteger {
			return what
		}
	case api.FnNode:
		return meaning{asked: p.call}
	case api.ObjectNode:
		return meaning{asked: p.objectAsked, put: p.objectPut, handed: p.objectHanded}
	}
	return meaning{isInteger: true, asked: func(by place) api.Term { return p.under(by).take() }}
}

// call returns the term of a definition, or of a function, whose first kids are names: they stand for the arguments of the node that asks for it.
func (p place) call(by place) api.Term {
	inner := p.under(by)
	for k, argument := range by.kids[by.node] {
		inner = inner.with(p.kid(k).self().Text, by.at(argument).argument())
	}
	return inner.lastKid().take()
}

func (p place) objectAsked(by place) api.Term { return p.under(by).kid(0).take() }

// objectPut returns the term of a PutNode that means an object. What it puts is kept in a cell, since it is evaluated once, whatever the object does with it.
func (p place) objectPut(by place) api.Term {
	inner, id := by.withId()
	last := p.under(inner).with(p.kid(1).self().Text, value(api.TermGet, id)).kid(2)
	both := func() api.Term {
		keep := func() api.Term { return cell(id).put(inner) }
		return inner.term(api.Term{Kind: api.TermSeq}, keep, last.take)
	}
	return by.term(api.Term{Kind: api.TermNew, N: by.kid(0).size()}, both)
}

func (p place) objectHanded(by place) api.Term {
	inner, id := by.withId()
	last := p.under(inner).with(p.kid(1).self().Text, value(api.TermVal, id)).kid(2)
	return by.term(api.Term{Kind: api.TermObject}, p.under(by).kid(0).take, last.take)
}
