package core_test

import (
	"maps"
	"strconv"
	"strings"
	"testing"

	"riposte/api"
	"riposte/check"
	"riposte/core"
	"riposte/parse"
	"riposte/sample"
)

// This file has a model of what an export becomes that is not like the program: declarations have numbers, types say what an argument is, and what is made is a text.

// stands is what a declaration stands for: an identifier of the term, which is asked by a sign in front of it, a label, or a node with what is known there.
type stands struct {
	sign  string
	n     int
	known known
}

// known is what declarations stand for, by their nodes.
type known map[int]stands

func (l known) with(d int, x stands) known {
	l = maps.Clone(l)
	l[d] = x
	return l
}

// sight is how many identifiers and labels are in sight.
type sight struct{ ids, labels int }

// model makes the text of the core of an export.
type model struct {
	t           *testing.T
	x           api.Tree
	ids         []api.Type
	taken, made int
}

// tooMuch is what a model panics with.
type tooMuch struct{}

// modelled returns the text of the core of the export m; false, if it would be too much.
func modelled(t *testing.T, x api.Tree) (s string, ok bool) {
	t.Helper()
	a, l, e := check.Arena(x, "m", false)
	if e != api.OK {
		t.Fatalf("Arena: %v", e)
	}
	m := &model{t: t, x: x, ids: a.Ids}
	outer := known{}
	export, _ := parse.Find(x, "m")
	for i, y := range l {
		sign := "x"
		if len(y.Type.Params) == 0 && y.Type.Result.Cell {
			sign = "!"
		}
		for n, z := range x.Nodes {
			if z.Text == y.Name && (z.Kind == api.ImportItem || z.Kind == api.ParamNode) {
				outer[n] = stands{sign: sign, n: i + 1}
			}
		}
	}
	defer func() {
		if r := recover(); r != nil {
			if _, isLimit := r.(tooMuch); !isLimit {
				panic(r)
			}
			s, ok = "", false
		}
	}()
	kids := m.kids(export)
	return m.term(kids[len(kids)-1], outer, sight{ids: len(a.Ids)}), true
}

func (m *model) kids(n int) []int {
	l, e := parse.Kids(m.x, n)
	if e != api.OK {
		m.t.Fatalf("Kids of %d: %v", n, e)
	}
	return l
}

// node returns the text of a term with kids.
func (m *model) node(head string, kids ...string) string {
	if m.made++; m.made > 600 {
		panic(tooMuch{})
	}
	if len(kids) > 0 {
		head += "(" + strings.Join(kids, ",") + ")"
	}
	return head
}

func num(n int) string { return strconv.Itoa(n) }

// meant returns what the declaration that a node means stands for.
func (m *model) meant(n int, l known) stands {
	d, e := check.Means(m.x, n)
	if e != api.OK {
		m.t.Fatalf("Means of %d: %v", n, e)
	}
	if x, ok := l[d]; ok {
		return x
	}
	if m.x.Nodes[d].Kind != api.DefItem {
		return m.imported(d)
	}
	return stands{n: d, known: known{}}
}

// imported returns what an ImportItem stands for, also where nothing is known of it: in a definition.
func (m *model) imported(d int) stands {
	id := 1
	for _, y := range m.x.Nodes[:d] {
		if y.Kind == api.ImportItem {
			id++
		}
	}
	if m.x.Nodes[d].Kind != api.ImportItem {
		m.t.Fatalf("%d stands for nothing", d)
	}
	if m.isCell(id) {
		return stands{sign: "!", n: id}
	}
	return stands{sign: "x", n: id}
}

func (m *model) isCell(id int) bool {
	return len(m.ids[id-1].Params) == 0 && m.ids[id-1].Result.Cell
}

// argument returns what a param stands for.
func (m *model) argument(n int, l known) stands {
	if m.x.Nodes[n].Kind == api.NameNode {
		d, _ := check.Means(m.x, n)
		if t, e := check.Type(m.x, d); e == api.OK && (t.Result.Cell || len(t.Params) > 0) {
			return m.meant(n, l)
		}
	}
	return stands{n: n, known: l}
}

func (m *model) size(n int) string {
	size, e := check.Size(m.x, n)
	if e != api.OK {
		m.t.Fatalf("Size of %d: %v", n, e)
	}
	return num(size)
}

// term makes the text of the term of a node.
func (m *model) term(n int, l known, at sight) string {
	if m.taken++; m.taken > 20000 {
		panic(tooMuch{})
	}
	x, k := m.x.Nodes[n], m.kids(n)
	kid := func(i int) string { return m.term(k[i], l, at) }
	bit := func(i int) string { return m.node(num(i) + "/2") }
	switch x.Kind {
	case api.NumNode:
		return m.node(num(x.N) + "/" + m.size(n))
	case api.TrueNode:
		return bit(1)
	case api.FalseNode:
		return bit(0)
	case api.SkipNode:
		return m.node("0/1")
	case api.HangNode:
		return m.node("hang")
	case api.AsNode:
		if y := m.x.Nodes[k[0]]; y.Kind == api.NumNode {
			return m.node(num(y.N%x.N) + "/" + num(x.N))
		}
		return m.node("as/"+num(x.N), kid(0))
	case api.OrNode:
		return m.node("if", kid(0), bit(1), kid(1))
	case api.AndNode:
		return m.node("if", kid(0), kid(1), bit(0))
	case api.NotNode:
		return m.node("if", kid(0), bit(0), bit(1))
	case api.SeqNode:
		text := kid(len(k) - 1)
		for i := len(k) - 2; i >= 0; i-- {
			text = m.node("seq", kid(i), text)
		}
		return text
	case api.IfNode:
		return m.node("if", kid(0), kid(1), kid(2))
	case api.WhileNode:
		return m.node("while", kid(0), kid(1))
	case api.ChooseNode:
		return m.node("choose", kid(0), kid(1))
	}
	if word, ok := map[uint8]string{api.AddNode: "add/", api.SubNode: "sub/", api.MulNode: "mul/", api.EqNode: "eq/", api.LessNode: "less/"}[x.Kind]; ok {
		return m.node(word+m.size(k[1]), kid(0), kid(1))
	}
	return m.named(n, l, at)
}

// named makes the text of the term of a node with a name.
func (m *model) named(n int, l known, at sight) string {
	x, k := m.x.Nodes[n], m.kids(n)
	switch x.Kind {
	case api.NewNode:
		at.ids++
		return m.node("new/"+num(x.N)+"/"+num(x.M), m.term(k[0], l.with(n, stands{sign: "!", n: at.ids}), at))
	case api.LabelNode:
		inner := sight{at.ids, at.labels + 1}
		return m.node("label", m.term(k[0], l.with(n, stands{sign: "jump", n: at.labels}), inner), m.term(k[1], l, at))
	}
	d := m.meant(n, l)
	switch x.Kind {
	case api.JumpNode:
		return m.node("jump/" + num(at.labels-1-d.n))
	case api.NoticeNode:
		return m.node("notice/"+num(d.n)+"/"+num(x.N), m.term(k[0], l, at))
	case api.PutNode:
		return m.put(d, n, l, at)
	}
	if d.sign == "x" {
		var args []string
		for j, b := range m.ids[d.n-1].Params {
			args = append(args, m.handed(k[j], b, l, at))
		}
		return m.node("x"+num(d.n), args...)
	}
	if d.sign != "" {
		return m.node(d.sign + num(d.n))
	}
	inside := m.kids(d.n)
	switch m.x.Nodes[d.n].Kind {
	case api.DefItem, api.FnNode:
		inner := d.known
		for j, y := range k {
			inner = inner.with(inside[j], m.argument(y, l))
		}
		return m.term(inside[len(inside)-1], inner, at)
	case api.ObjectNode:
		return m.term(inside[0], d.known, at)
	}
	return m.term(d.n, d.known, at)
}

// put makes the text of the term of a PutNode.
func (m *model) put(d stands, n int, l known, at sight) string {
	k := m.kids(n)[0]
	if d.sign != "" {
		return m.node("="+num(d.n), m.term(k, l, at))
	}
	at.ids++
	inside := m.kids(d.n)
	kept := m.node("="+num(at.ids), m.term(k, l, at))
	last := m.term(inside[2], d.known.with(inside[1], stands{sign: "!", n: at.ids}), at)
	return m.node("new/"+m.size(k)+"/0", m.node("seq", kept, last))
}

// handed makes the text of an argument for an identifier.
func (m *model) handed(n int, b api.Base, l known, at sight) string {
	if !b.Cell {
		return m.term(n, l, at)
	}
	d := m.argument(n, l)
	if d.sign != "" {
		return m.node("&" + num(d.n))
	}
	inside := m.kids(d.n)
	inner := sight{at.ids + 1, at.labels}
	value := stands{sign: "#", n: inner.ids}
	return m.node("obj", m.term(inside[0], d.known, at), m.term(inside[2], d.known.with(inside[1], value), inner))
}

// P7.1: random programs become what the model says.
func TestModelOfPrograms(t *testing.T) {
	r := source(10)
	words := []string{"obj", "#", "&", "notice", "jump/1", "new/", "x1(", "label", "while", "choose"}
	counts := map[string]int{}
	for range 1500 {
		x := sample.Tree(r.Intn)
		want, ok := modelled(t, x)
		a, u, e := core.Of(x, "m", r.Intn(2) == 0)
		if !ok {
			counts["too much"]++
			if e != api.ErrLimit {
				t.Fatalf("Of %s: %v", printed(x), e)
			}
			continue
		}
		if e != api.OK {
			t.Fatalf("Of %s: %v", printed(x), e)
		}
		got := text(t, a, u)
		if got != want {
			t.Fatalf("Of %s: %s, not %s", printed(x), got, want)
		}
		for _, word := range words {
			if strings.Contains(got, word) {
				counts[word]++
			}
		}
	}
	for _, word := range append(words, "too much") {
		if counts[word] < 2 {
			t.Errorf("%s: %d", word, counts[word])
		}
	}
}
