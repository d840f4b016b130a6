package core

import (
	"riposte/api"
	"riposte/check"
	"riposte/parse"
)

// program is a program that becomes terms, in the arena of one of its exports.
type program struct {
	api.Tree
	api.Arena
	kids        [][]int // of each node
	rules       map[uint8]func(place) api.Term
	sizes       map[int]int // those of the terms that have been asked for theirs
	taken, made int         // how often a node was taken, and how many nodes of terms there are
}

// place is a node where it becomes a term: what names stand for, and how many identifiers and labels are in sight in the term that is made.
type place struct {
	*program
	*names
	node        int
	ids, labels int
}

func newProgram(t api.Tree, a api.Arena) *program {
	kids := make([][]int, len(t.Nodes))
	for n, x := range t.Nodes {
		for k := n + 1; k < n+x.Size; k += t.Nodes[k].Size {
			kids[n] = append(kids[n], k)
		}
	}
	return &program{Tree: t, Arena: a, kids: kids, rules: rules(), sizes: map[int]int{}}
}

// attempt makes a term, if that does not take, or become, too many nodes.
func attempt(take func() api.Term) (t api.Term, e api.Errno) {
	defer func() {
		switch x := recover().(type) {
		case nil: // the term has been made
		case api.Errno:
			t, e = api.Term{}, x
		}
	}()
	return take(), api.OK
}

// count counts one more of something of which there is a limit.
func count(many *int, limit int) {
	if *many++; *many > limit {
		panic(api.ErrLimit)
	}
}

// export returns the term of an export, where all that is declared outside of it is in sight.
func (p *program) export(name string) place {
	item, _ := parse.Find(p.Tree, name) // that there is one is known by its arena
	v := place{program: p, ids: len(p.Ids)}
	id := 0
	for _, n := range p.kids[0] {
		switch x := v.at(n); x.self().Kind {
		case api.ImportItem:
			id++
			v = v.with(x.self().Text, p.identifier(id))
		case api.DefItem:
			v = v.with(x.self().Text, x.definition())
		}
	}
	v = v.at(item)
	for _, n := range p.kids[item] {
		if x := p.Nodes[n]; x.Kind == api.ParamNode {
			id++
			v = v.with(x.Text, p.identifier(id))
		}
	}
	return v.lastKid()
}

// at returns another node, where the same is in sight.
func (p place) at(n int) place {
	p.node = n
	return p
}

// under returns the node where as much is in sight of the term as at another one; the names are its own.
func (p place) under(by place) place {
	p.ids, p.labels = by.ids, by.labels
	return p
}

// self returns the node itself.
func (p place) self() api.TreeNode { return p.Nodes[p.node] }

func (p place) kid(k int) place { return p.at(p.kids[p.node][k]) }

func (p place) lastKid() place { return p.kid(len(p.kids[p.node]) - 1) }

// size returns the size that the node is given.
func (p place) size() int {
	if p.sizes[p.node] == 0 {
		p.sizes[p.node], _ = check.Size(p.Tree, p.node)
	}
	return p.sizes[p.node]
}

// take returns the term of the node.
func (p place) take() api.Term {
	count(&p.taken, api.MaxTaken)
	return p.rules[p.self().Kind](p)
}

// term returns a term with kids.
func (p place) term(t api.Term, kids ...func() api.Term) api.Term {
	count(&p.made, api.MaxCore)
	for _, kid := range kids {
		x := kid()
		t.Kids = append(t.Kids, x)
	}
	return t
}
