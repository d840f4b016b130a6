package parse

import "riposte/api"

// goesOn tells whether a ; comes that belongs to a term.
func (r *reader) goesOn() bool {
	if !r.is(";") {
		return false
	}
	behind := r.tokens[r.next+1]
	return behind.Kind != 0 && !beginsItem(behind)
}

func (r *reader) term() *knot {
	k := r.first()
	if !r.goesOn() {
		return k
	}
	k = r.grow(api.SeqNode, k)
	k.add(r.first())
	for r.goesOn() {
		r.pass(";")
		k.add(r.first())
	}
	return k
}

// firsts returns how the firsts are read that begin with a keyword.
func firsts() map[string]func(*reader) *knot {
	return map[string]func(*reader) *knot{
		"if":     (*reader).branch,
		"while":  (*reader).loop,
		"new":    (*reader).cell,
		"label":  (*reader).label,
		"notice": (*reader).notice,
		"choose": (*reader).choice,
	}
}

func (r *reader) first() *knot {
	if part, ok := r.firsts[r.now().Text]; ok {
		return part(r)
	}
	if r.now().Kind == api.TokName && r.tokens[r.next+1].Text == ":=" {
		return r.put()
	}
	return r.or()
}

// joined reads firsts that some words join, as the kids of a knot.
func (r *reader) joined(k *knot, words ...string) *knot {
	k.add(r.first())
	for _, w := range words {
		r.pass(w)
		k.add(r.first())
	}
	return k
}

func (r *reader) branch() *knot { return r.joined(r.grow(api.IfNode), "then", "else") }

func (r *reader) loop() *knot { return r.joined(r.grow(api.WhileNode), "do") }

func (r *reader) choice() *knot { return r.joined(r.grow(api.ChooseNode), "else") }

func (r *reader) cell() *knot {
	k := r.grow(api.NewNode)
	k.Text = r.name()
	r.pass(":")
	k.N = r.number()
	r.pass(":=")
	k.M = r.number()
	r.pass("in")
	return r.joined(k)
}

func (r *reader) label() *knot {
	k := r.grow(api.LabelNode)
	k.Text = r.name()
	r.pass("in")
	return r.joined(k, "else")
}

func (r *reader) notice() *knot {
	k := r.grow(api.NoticeNode)
	k.Text = r.name()
	r.pass(":=")
	k.N = r.number()
	r.pass("in")
	return r.joined(k)
}

func (r *reader) put() *knot {
	k := r.named(api.PutNode)
	r.pass(":=")
	return r.joined(k)
}

// operation returns the kind of the node of an operation.
func operation(sign string) uint8 {
	switch sign {
	case "or":
		return api.OrNode
	case "and":
		return api.AndNode
	case "=":
		return api.EqNode
	case "<":
		return api.LessNode
	case "+":
		return api.AddNode
	case "-":
		return api.SubNode
	}
	return api.MulNode
}

// operate reads an operation behind its first term.
func (r *reader) operate(k *knot, part func() *knot) *knot {
	k = r.grow(operation(r.now().Text), k)
	k.add(part())
	return k
}

// chain reads parts with operations between them, which stand to the left.
func (r *reader) chain(part func() *knot, signs ...string) *knot {
	k := part()
	for r.is(signs...) {
		k = r.operate(k, part)
	}
	return k
}

func (r *reader) or() *knot { return r.chain(r.and, "or") }

func (r *reader) and() *knot { return r.chain(r.not, "and") }

func (r *reader) not() *knot {
	if !r.is("not") {
		return r.test()
	}
	k := r.grow(api.NotNode)
	k.add(r.not())
	return k
}

func (r *reader) test() *knot {
	k := r.sum()
	if r.is("=", "<") {
		return r.operate(k, r.sum)
	}
	return k
}

func (r *reader) sum() *knot { return r.chain(r.product, "+", "-") }

func (r *reader) product() *knot { return r.chain(r.cast, "*") }

func (r *reader) cast() *knot {
	k := r.atom()
	for r.is("as") {
		k = r.grow(api.AsNode, k)
		k.N = r.number()
	}
	return k
}

func (r *reader) atom() *knot {
	switch r.now().Text {
	case "true":
		return r.grow(api.TrueNode)
	case "false":
		return r.grow(api.FalseNode)
	case "skip":
		return r.grow(api.SkipNode)
	case "hang":
		return r.grow(api.HangNode)
	case "jump":
		return r.marked(api.JumpNode)
	case "!":
		return r.marked(api.GetNode)
	case "(":
		return r.bracket()
	}
	if r.now().Kind == api.TokNumber {
		return r.numeral()
	}
	return r.use()
}

// marked reads a name behind the token of its node.
func (r *reader) marked(kind uint8) *knot {
	k := r.grow(kind)
	k.Text = r.name()
	return k
}

func (r *reader) bracket() *knot {
	r.pass("(")
	k := r.term()
	r.pass(")")
	return k
}

func (r *reader) numeral() *knot {
	k := r.here(api.NumNode)
	k.N = r.number()
	return k
}

// use reads a name, or a call.
func (r *reader) use() *knot {
	k := r.named(api.NameNode)
	if !r.is("(") {
		return k
	}
	r.pass("(")
	k.Kind = api.CallNode
	k.add(r.commas(r.argument)...)
	r.pass(")")
	return k
}

func (r *reader) argument() *knot {
	switch r.now().Text {
	case "fn":
		return r.function()
	case "{":
		return r.object()
	}
	return r.term()
}

func (r *reader) function() *knot {
	k := r.grow(api.FnNode)
	r.pass("(")
	k.add(r.commas(func() *knot { return r.named(api.BindNode) })...)
	r.pass(")")
	return r.joined(k)
}

func (r *reader) object() *knot {
	k := r.grow(api.ObjectNode)
	r.pass("get")
	k.add(r.first())
	r.pass(";", "put")
	k.add(r.named(api.BindNode))
	r.pass(".")
	k.add(r.first())
	r.pass("}")
	return k
}
