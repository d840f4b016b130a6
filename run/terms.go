package run

import "riposte/api"

// How an evaluation ends.
const (
	stopped = iota // it does not: the execution stands where it is
	valued         // with a value
	jumped         // with a jump
	lost           // the other one has jumped past all
)

// ending is how an evaluation ends: what is told of it, a value or Esc, and to which label it jumps.
type ending struct {
	how, n int
	label  int
}

func value(n int) ending { return ending{how: valued, n: n} }

// visit is a node that is evaluated in an execution, and what is in sight there.
type visit struct {
	*execution
	node  int
	sight *sight
}

func (v visit) at(n int) visit {
	v.node = n
	return v
}

// self returns the node itself.
func (v visit) self() api.TreeNode { return v.Nodes[v.node] }

func (v visit) kind() uint8 { return v.self().Kind }

func (v visit) name() string { return v.self().Text }

// kids yields the kids, where the same is in sight.
func (v visit) kids(yield func(visit) bool) {
	end := v.node + v.self().Size
	for n := v.node + 1; n < end; n += v.Nodes[n].Size {
		if !yield(v.at(n)) {
			return
		}
	}
}

func (v visit) kid(k int) visit {
	n := v.node + 1
	for range k {
		n += v.Nodes[n].Size
	}
	return v.at(n)
}

func (v visit) lastKid() visit {
	var last visit
	for k := range v.kids {
		last = k
	}
	return last
}

// rules returns how the terms of each kind are evaluated.
func rules() map[uint8]func(visit) ending {
	return map[uint8]func(visit) ending{
		api.SeqNode:    visit.seq,
		api.IfNode:     visit.ifElse,
		api.WhileNode:  visit.while,
		api.NewNode:    visit.newCell,
		api.LabelNode:  visit.label,
		api.NoticeNode: visit.notice,
		api.ChooseNode: visit.choose,
		api.PutNode:    visit.putTo,
		api.OrNode:     visit.or,
		api.AndNode:    visit.and,
		api.NotNode:    visit.not,
		api.EqNode:     visit.eq,
		api.LessNode:   visit.less,
		api.AddNode:    visit.add,
		api.SubNode:    visit.sub,
		api.MulNode:    visit.mul,
		api.AsNode:     visit.as,
		api.NumNode:    visit.number,
		api.TrueNode:   visit.yes,
		api.FalseNode:  visit.zero,
		api.SkipNode:   visit.zero,
		api.HangNode:   visit.hang,
		api.JumpNode:   visit.asks,
		api.GetNode:    visit.asks,
		api.NameNode:   visit.asks,
		api.CallNode:   visit.asks,
	}
}

// evaluate evaluates a node: a step.
func (v visit) evaluate() ending {
	if v.Steps == api.MaxSteps {
		v.errno = api.ErrLimit
		return ending{}
	}
	v.Steps++
	return v.rules[v.kind()](v)
}

// after evaluates a kid, and goes on with its value, if it has one.
func (v visit) after(kid int, goOn func(n int) ending) ending {
	end := v.kid(kid).evaluate()
	if end.how != valued {
		return end
	}
	return goOn(end.n)
}

func (v visit) seq() ending {
	var end ending
	for k := range v.kids {
		if end = k.evaluate(); end.how != valued {
			break
		}
	}
	return end
}

func (v visit) ifElse() ending {
	return v.after(0, func(n int) ending {
		if n != 0 {
			return v.kid(1).evaluate()
		}
		return v.kid(2).evaluate()
	})
}

func (v visit) while() ending {
	for {
		end := v.kid(0).evaluate()
		if end.how != valued || end.n == 0 {
			return end
		}
		if end = v.kid(1).evaluate(); end.how != valued {
			return end
		}
	}
}

func (v visit) newCell() ending {
	c := &api.CellSeen{Node: v.node, N: v.self().M}
	v.cells = append(v.cells, c)
	end := v.with(v.name(), stored(c)).kid(0).evaluate()
	if end.how != stopped {
		v.cells = v.cells[:len(v.cells)-1]
	}
	return end
}

func (v visit) label() ending {
	// No two evaluations begin with the same step: this time's label is told from others by it.
	here := ending{how: jumped, n: api.Esc, label: v.Steps}
	jump := meaning{asked: func(visit) ending { return here }}
	end := v.with(v.name(), jump).kid(0).evaluate()
	if end == here {
		return v.kid(1).evaluate()
	}
	return end
}

func (v visit) notice() ending {
	end := v.kid(0).evaluate()
	if end.how == jumped || end.how == lost {
		v.meant().put(v, v.self().N)
	}
	return end
}

func (v visit) choose() ending {
	pick := 0
	if v.Picks < len(v.picks) {
		pick = v.picks[v.Picks]
	}
	v.Picks++
	if pick%2 == 0 {
		return v.kid(0).evaluate()
	}
	return v.kid(1).evaluate()
}

// putTo evaluates a PutNode.
func (v visit) putTo() ending {
	return v.after(0, func(n int) ending { return v.meant().put(v, n) })
}

// unless evaluates the first kid, and, unless that is a number, the second one.
func (v visit) unless(number int) ending {
	return v.after(0, func(n int) ending {
		if n == number {
			return value(n)
		}
		return v.kid(1).evaluate()
	})
}

func (v visit) or() ending { return v.unless(1) }

func (v visit) and() ending { return v.unless(0) }

func (v visit) not() ending {
	return v.after(0, func(n int) ending { return value(1 - n) })
}

// both evaluates both kids, and then what is made of their values.
func (v visit) both(combine func(a, b int) int) ending {
	return v.after(0, func(a int) ending {
		return v.after(1, func(b int) ending { return value(combine(a, b)) })
	})
}

// compare returns 1 if something is so of the kids, otherwise 0.
func (v visit) compare(isSo func(a, b int) bool) ending {
	return v.both(func(a, b int) int {
		if isSo(a, b) {
			return 1
		}
		return 0
	})
}

func (v visit) eq() ending {
	return v.compare(func(a, b int) bool { return a == b })
}

func (v visit) less() ending {
	return v.compare(func(a, b int) bool { return a < b })
}

func (v visit) add() ending {
	return v.both(func(a, b int) int { return (a + b) % v.size(v.node) })
}

func (v visit) sub() ending {
	return v.both(func(a, b int) int {
		size := v.size(v.node)
		return (a - b + size) % size
	})
}

func (v visit) mul() ending {
	return v.both(func(a, b int) int { return a * b % v.size(v.node) })
}

func (v visit) as() ending {
	size := v.self().N
	if k := v.kid(0); k.kind() == api.NumNode {
		return value(k.self().N % size)
	}
	return v.after(0, func(n int) ending { return value(n % size) })
}

func (v visit) number() ending { return value(v.self().N) }

func (v visit) yes() ending { return value(1) }

func (v visit) zero() ending { return value(0) }

func (v visit) hang() ending {
	v.State = api.StateHangs
	if v.At < len(v.word) {
		v.State = api.StateOdd
	}
	return ending{}
}

// asks asks what a name stands for, from its node.
func (v visit) asks() ending { return v.meant().asked(v) }
