package parse

import (
	"iter"
	"strings"

	"riposte/api"
)

// rank is where a node can stand; of a term, what the grammar calls it.
type rank uint8

// The ranks. Those of terms come last, and rise by how they bind.
const (
	outside rank = iota // a program, and what is no node
	item
	param
	arrow
	base
	bind
	argument // no term, but an argument
	term
	first
	or
	and
	not
	test
	sum
	product
	cast
	atom
)

// form is what the nodes of a kind are.
type form struct {
	rank
	layout string // the production of the grammar: tokens, and fields and kids with a capital letter
}

// forms returns the form of each kind.
func forms() []form {
	return []form{
		api.ProgramNode: {outside, "Items"},
		api.ImportItem:  {item, "import Text : Type ;"},
		api.DefItem:     {item, "def Text ( Params ) : Base = Term ;"},
		api.ExportItem:  {item, "export Text ( Params ) : Base = Term ;"},
		api.ParamNode:   {param, "Text : Type"},
		api.IntType:     {base, "int N"},
		api.CellType:    {base, "cell N"},
		api.ArrowType:   {arrow, "( Bases ) -> Base"},
		api.SeqNode:     {term, "First ; Firsts"},
		api.IfNode:      {first, "if First then First else First"},
		api.WhileNode:   {first, "while First do First"},
		api.NewNode:     {first, "new Text : N := M in First"},
		api.LabelNode:   {first, "label Text in First else First"},
		api.NoticeNode:  {first, "notice Text := N in First"},
		api.ChooseNode:  {first, "choose First else First"},
		api.PutNode:     {first, "Text := First"},
		api.OrNode:      {or, "Or or And"},
		api.AndNode:     {and, "And and Not"},
		api.NotNode:     {not, "not Not"},
		api.EqNode:      {test, "Sum = Sum"},
		api.LessNode:    {test, "Sum < Sum"},
		api.AddNode:     {sum, "Sum + Product"},
		api.SubNode:     {sum, "Sum - Product"},
		api.MulNode:     {product, "Product * Cast"},
		api.AsNode:      {cast, "Cast as N"},
		api.NumNode:     {atom, "N"},
		api.TrueNode:    {atom, "true"},
		api.FalseNode:   {atom, "false"},
		api.SkipNode:    {atom, "skip"},
		api.HangNode:    {atom, "hang"},
		api.JumpNode:    {atom, "jump Text"},
		api.GetNode:     {atom, "! Text"},
		api.NameNode:    {atom, "Text"},
		api.CallNode:    {atom, "Text ( Args )"},
		api.FnNode:      {argument, "fn ( Binds ) First"},
		api.ObjectNode:  {argument, "{ get First ; put Bind . First }"},
		api.BindNode:    {bind, "Text"},
	}
}

// slot is where kids stand in a layout.
type slot struct {
	from, to rank   // of which ranks they are, if no brackets stand around them
	many     bool   // whether any number of them stands there, from least on
	least    int    // of one that stands alone, 1
	sign     string // what stands between them
}

// slotOf returns the slot that a word of a layout is.
func slotOf(word string) (slot, bool) {
	switch word {
	case "Items":
		return slot{item, item, true, 0, ""}, true
	case "Params":
		return slot{param, param, true, 0, ","}, true
	case "Bases":
		return slot{base, base, true, 1, ","}, true
	case "Args":
		return slot{argument, atom, true, 1, ","}, true
	case "Binds":
		return slot{bind, bind, true, 1, ","}, true
	case "Firsts":
		return slot{first, atom, true, 1, ";"}, true
	}
	from, to := ranksOf(word)
	return slot{from, to, false, 1, ""}, from != outside
}

// ranksOf returns the ranks of a kid that stands alone.
func ranksOf(word string) (from, to rank) {
	switch word {
	case "Type":
		return arrow, base
	case "Base":
		return base, base
	case "Bind":
		return bind, bind
	case "Term":
		return term, atom
	case "First":
		return first, atom
	case "Or":
		return or, atom
	case "And":
		return and, atom
	case "Not":
		return not, atom
	case "Sum":
		return sum, atom
	case "Product":
		return product, atom
	case "Cast":
		return cast, atom
	}
	return outside, outside
}

// needsBrackets tells whether a term of a rank can only stand in a slot in brackets.
func (s slot) needsBrackets(r rank) bool { return r >= term && r < s.from }

// takes tells whether a node of a rank can stand in a slot.
func (s slot) takes(r rank) bool {
	return s.from <= r && r <= s.to || s.to == atom && s.needsBrackets(r)
}

// places yields the words of a layout, each with the kids that stand there; at last none, with those for which there is no place.
func places(layout string, kids []int) iter.Seq2[string, []int] {
	return func(yield func(string, []int) bool) {
		words := strings.Fields(layout)
		alone := 0
		for _, w := range words {
			if s, ok := slotOf(w); ok && !s.many {
				alone++
			}
		}
		rest := kids
		for _, w := range words {
			n := 0
			if s, ok := slotOf(w); ok && s.many {
				n = max(len(rest)-alone, 0)
			} else if ok {
				n, alone = min(len(rest), 1), alone-1
			}
			if !yield(w, rest[:n]) {
				return
			}
			rest = rest[n:]
		}
		yield("", rest)
	}
}
