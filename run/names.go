package run

import "riposte/api"

// meaning is what a declaration stands for: what happens when it is asked, or put, at a node; and whether it is an integer.
type meaning struct {
	isInteger bool
	asked     func(by visit) ending
	put       func(by visit, n int) ending
}

// sight is what a name stands for, and what is in sight around it. In a program without errors no name hides another one.
type sight struct {
	name   string
	what   meaning
	around *sight
}

// meant returns what the name of a node stands for.
func (v visit) meant() meaning {
	for s := v.sight; s != nil; s = s.around {
		if s.name == v.name() {
			return s.what
		}
	}
	return meaning{}
}

// with returns a node where one more name is in sight.
func (v visit) with(name string, what meaning) visit {
	v.sight = &sight{name, what, v.sight}
	return v
}

func (p program) identifier(id int) meaning {
	t := p.Ids[id-1]
	return meaning{
		isInteger: len(t.Params) == 0 && !t.Result.Cell,
		asked:     func(by visit) ending { return by.ask(api.Move{Id: id, Kind: api.MoveAsk}) },
		put:       func(by visit, n int) ending { return by.ask(api.Move{Id: id, Kind: api.MovePut, N: n}) },
	}
}

func (v visit) definition() meaning {
	hasParams := v.kid(0).kind() == api.ParamNode
	return meaning{isInteger: !hasParams, asked: v.call}
}

// argument returns what a param stands for where a node is the argument.
func (v visit) argument() meaning {
	switch v.kind() {
	case api.NameNode:
		if what := v.meant(); !what.isInteger {
			return what
		}
	case api.FnNode:
		return meaning{asked: v.call}
	case api.ObjectNode:
		return v.object()
	}
	return meaning{isInteger: true, asked: func(visit) ending { return v.evaluate() }}
}

func (v visit) object() meaning {
	return meaning{
		asked: func(visit) ending { return v.kid(0).evaluate() },
		put: func(_ visit, n int) ending {
			number := meaning{isInteger: true, asked: func(visit) ending { return value(n) }}
			return v.with(v.kid(1).name(), number).kid(2).evaluate()
		},
	}
}

func stored(c *api.CellSeen) meaning {
	return meaning{
		asked: func(visit) ending { return value(c.N) },
		put: func(_ visit, n int) ending {
			c.N = n
			return value(0)
		},
	}
}

// call evaluates the term of a definition, or of a function, whose first kids are names: they stand for the arguments of the node that asks for it.
func (v visit) call(by visit) ending {
	inner, k := v, 0
	for argument := range by.kids {
		inner = inner.with(v.kid(k).name(), argument.argument())
		k++
	}
	return inner.lastKid().evaluate()
}

// ask asks an identifier a question, with the kids of a node as arguments, and hears what the other one wants to know of these before it answers.
func (v visit) ask(q api.Move) ending {
	if !v.says(q) {
		return ending{}
	}
	m, ok := v.hears()
	for ok && m.Arg != 0 {
		if end := v.kid(m.Arg - 1).answer(m); end.how != valued {
			return end
		}
		m, ok = v.hears()
	}
	switch {
	case !ok:
		return ending{}
	case m.N == api.Esc:
		return ending{how: lost, n: api.Esc}
	}
	return value(m.N)
}

// answer evaluates an argument for a question of the other one, and tells how that ends.
func (v visit) answer(q api.Move) ending {
	var end ending
	if q.Kind == api.MovePut {
		end = v.argument().put(v, q.N)
	} else {
		end = v.argument().asked(v)
	}
	if end.how == stopped || !v.says(api.Move{Id: q.Id, Arg: q.Arg, Kind: api.MoveTell, N: end.n}) {
		return ending{}
	}
	if end.how == valued {
		return end
	}
	// Nothing but the jump of the identifier itself can come now.
	if _, ok := v.hears(); !ok {
		return ending{}
	}
	return end
}
