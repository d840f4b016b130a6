package core

import "riposte/api"

// rules returns what comes of the nodes of each kind.
func rules() map[uint8]func(place) api.Term {
	return map[uint8]func(place) api.Term{
		api.SeqNode:    place.seq,
		api.IfNode:     place.ifElse,
		api.WhileNode:  place.while,
		api.NewNode:    place.newCell,
		api.LabelNode:  place.label,
		api.NoticeNode: place.notice,
		api.ChooseNode: place.choose,
		api.PutNode:    place.putTo,
		api.OrNode:     place.or,
		api.AndNode:    place.and,
		api.NotNode:    place.not,
		api.EqNode:     place.eq,
		api.LessNode:   place.less,
		api.AddNode:    place.add,
		api.SubNode:    place.sub,
		api.MulNode:    place.mul,
		api.AsNode:     place.as,
		api.NumNode:    place.number,
		api.TrueNode:   place.yes,
		api.FalseNode:  place.no,
		api.SkipNode:   place.skip,
		api.HangNode:   place.hang,
		api.JumpNode:   place.asks,
		api.GetNode:    place.asks,
		api.NameNode:   place.asks,
		api.CallNode:   place.asks,
	}
}

// takes returns what makes the terms of the kids.
func (p place) takes() []func() api.Term {
	var l []func() api.Term
	for _, n := range p.kids[p.node] {
		l = append(l, p.at(n).take)
	}
	return l
}

// seq returns the term of a SeqNode: one of two kids in each other.
func (p place) seq() api.Term { return p.seqOf(p.takes()) }

func (p place) seqOf(kids []func() api.Term) api.Term {
	if len(kids) == 1 {
		return kids[0]()
	}
	others := func() api.Term { return p.seqOf(kids[1:]) }
	return p.term(api.Term{Kind: api.TermSeq}, kids[0], others)
}

func (p place) ifElse() api.Term { return p.term(api.Term{Kind: api.TermIf}, p.takes()...) }

func (p place) while() api.Term { return p.term(api.Term{Kind: api.TermWhile}, p.takes()...) }

func (p place) choose() api.Term { return p.term(api.Term{Kind: api.TermChoose}, p.takes()...) }

func (p place) newCell() api.Term {
	x := p.self()
	inner, id := p.withId()
	kid := inner.with(x.Text, cell(id)).kid(0)
	return p.term(api.Term{Kind: api.TermNew, N: x.N, M: x.M}, kid.take)
}

func (p place) label() api.Term {
	inner := p.with(p.self().Text, label(p.labels+1))
	inner.labels++
	return p.term(api.Term{Kind: api.TermLabel}, inner.kid(0).take, p.kid(1).take)
}

func (p place) notice() api.Term {
	return p.term(api.Term{Kind: api.TermNotice, Id: p.meant().id, N: p.self().N}, p.kid(0).take)
}

// putTo returns the term of a PutNode.
func (p place) putTo() api.Term { return p.meant().put(p) }

// asks returns the term of a node that asks what its name stands for.
func (p place) asks() api.Term { return p.meant().asked(p) }

func (p place) integer(n, size int) api.Term {
	return p.term(api.Term{Kind: api.TermNum, N: n, M: size})
}

func (p place) yes() api.Term { return p.integer(1, 2) }

func (p place) no() api.Term { return p.integer(0, 2) }

func (p place) skip() api.Term { return p.integer(0, 1) }

func (p place) number() api.Term { return p.integer(p.self().N, p.size()) }

func (p place) hang() api.Term { return p.term(api.Term{Kind: api.TermHang}) }

func (p place) as() api.Term {
	size := p.self().N
	if k := p.kid(0).self(); k.Kind == api.NumNode {
		return p.integer(k.N%size, size)
	}
	return p.term(api.Term{Kind: api.TermAs, N: size}, p.kid(0).take)
}

// test returns a TermIf whose condition is the first kid.
func (p place) test(yes, no func() api.Term) api.Term {
	return p.term(api.Term{Kind: api.TermIf}, p.kid(0).take, yes, no)
}

func (p place) or() api.Term { return p.test(p.yes, p.kid(1).take) }

func (p place) and() api.Term { return p.test(p.kid(1).take, p.no) }

func (p place) not() api.Term { return p.test(p.no, p.yes) }

// operation returns a TermOp, whose size is that of the kids.
func (p place) operation(op int) api.Term {
	return p.term(api.Term{Kind: api.TermOp, N: op, M: p.kid(0).size()}, p.takes()...)
}

func (p place) add() api.Term { return p.operation(api.OpAdd) }

func (p place) sub() api.Term { return p.operation(api.OpSub) }

func (p place) mul() api.Term { return p.operation(api.OpMul) }

func (p place) eq() api.Term { return p.operation(api.OpEq) }

func (p place) less() api.Term { return p.operation(api.OpLess) }
