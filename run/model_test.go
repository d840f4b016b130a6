package run_test

import (
	"maps"
	"slices"
	"testing"

	"riposte/api"
	"riposte/arena"
	"riposte/check"
	"riposte/parse"
	"riposte/play"
	"riposte/run"
)

// This file has a model of the chapter that is not like the program: declarations have numbers, types say what an argument is, and jumps are panics.

// leap is a jump to a label, or, with 0, past all.
type leap struct{ label int }

// halt is the end of an execution that goes no further.
type halt struct{}

// thing is what a declaration stands for: an identifier, a value or a label N, a cell, or a node with what is known there.
type thing struct {
	what string
	n    int
	cell *api.CellSeen
	env  env
}

// env is what declarations stand for, by their nodes.
type env map[int]thing

func (l env) with(d int, x thing) env {
	l = maps.Clone(l)
	l[d] = x
	return l
}

// facts are what is known of the nodes of a program, as they are asked for.
type facts struct{ means, sizes map[int]int }

func noFacts() facts { return facts{map[int]int{}, map[int]int{}} }

// fact returns what is known of a node, or asks for it.
func fact(t *testing.T, known map[int]int, ask func(api.Tree, int) (int, api.Errno), x api.Tree, n int) int {
	t.Helper()
	if d, ok := known[n]; ok {
		return d
	}
	d, e := ask(x, n)
	if e != api.OK {
		t.Fatalf("node %d: %v", n, e)
	}
	known[n] = d
	return d
}

// model is an execution of a session.
type model struct {
	facts
	t      *testing.T
	x      api.Session
	a      api.Arena
	turn   api.Turn
	from   []int
	cells  []*api.CellSeen
	labels int
	limit  bool
}

// modelled returns the execution of a session.
func modelled(t *testing.T, x api.Session, f facts) *model {
	t.Helper()
	a, l, e := check.Arena(x.T, x.Export, x.Jumps)
	if e != api.OK {
		t.Fatalf("Arena: %v", e)
	}
	m := &model{facts: f, t: t, x: x, a: a}
	known := env{}
	for i, y := range l {
		for n, z := range x.T.Nodes {
			if z.Text == y.Name && (z.Kind == api.ImportItem || z.Kind == api.ParamNode) {
				known[n] = thing{what: "identifier", n: i + 1}
			}
		}
	}
	export, _ := parse.Find(x.T, x.Export)
	term := m.kids(export)[len(m.kids(export))-1]
	func() {
		defer func() {
			if r := recover(); r != nil {
				if _, ok := r.(halt); !ok {
					panic(r)
				}
			}
		}()
		m.hear()
		n, jumped := m.guarded(func() int { return m.eval(term, known) })
		if jumped != nil {
			n = api.Esc
		}
		m.say(api.Move{Kind: api.MoveTell, N: n}, term)
		m.turn.State = api.StateOver
		if m.turn.At < len(x.Word) {
			m.turn.State = api.StateOdd
		}
	}()
	return m
}

// guarded returns a value, or the jump with which its evaluation ends.
func (m *model) guarded(f func() int) (n int, jumped *leap) {
	defer func() {
		switch r := recover().(type) {
		case nil:
		case leap:
			jumped = &r
		default:
			panic(r)
		}
	}()
	return f(), nil
}

func (m *model) stop(state uint8) {
	m.turn.State = state
	panic(halt{})
}

func (m *model) say(x api.Move, from int) {
	if m.turn.At == len(m.x.Word) {
		m.turn.Moves = api.Word{x}
		m.from = append(m.from, from)
		if x.Id == 0 {
			m.stop(api.StateOver)
		}
		m.stop(api.StateAsks)
	}
	if m.x.Word[m.turn.At] != x {
		m.stop(api.StateOdd)
	}
	m.turn.At++
	m.from = append(m.from, from)
}

func (m *model) hear() api.Move {
	if m.turn.At == len(m.x.Word) {
		m.stop(api.StateAsks)
	}
	l, e := play.Next(m.a, m.x.Word[:m.turn.At])
	if e != api.OK {
		m.t.Fatalf("Next of what was said: %v", e)
	}
	x := m.x.Word[m.turn.At]
	if !slices.Contains(l, x) {
		m.stop(api.StateOdd)
	}
	m.turn.At++
	m.from = append(m.from, -1)
	return x
}

func (m *model) kids(n int) []int {
	var l []int
	for k := n + 1; k < n+m.x.T.Nodes[n].Size; k += m.x.T.Nodes[k].Size {
		l = append(l, k)
	}
	return l
}

// meant returns what a node means, and what this stands for.
func (m *model) meant(n int, known env) (int, thing) {
	d := fact(m.t, m.means, check.Means, m.x.T, n)
	if m.x.T.Nodes[d].Kind == api.DefItem {
		return d, thing{what: "node", n: d, env: env{}}
	}
	if m.x.T.Nodes[d].Kind == api.ImportItem {
		imports := 0
		for k := range d {
			if m.x.T.Nodes[k].Kind == api.ImportItem {
				imports++
			}
		}
		return d, thing{what: "identifier", n: imports + 1}
	}
	x, ok := known[d]
	if !ok {
		m.t.Fatalf("%d stands for nothing at %d", d, n)
	}
	return d, x
}

// argument returns what a param stands for.
func (m *model) argument(n int, known env) thing {
	if m.x.T.Nodes[n].Kind == api.NameNode {
		d, x := m.meant(n, known)
		k, e := check.Type(m.x.T, d)
		if e != api.OK {
			m.t.Fatalf("Type of %d: %v", d, e)
		}
		if k.Result.Cell || len(k.Params) > 0 {
			return x
		}
	}
	return thing{what: "node", n: n, env: known}
}

// ask is what happens when an identifier is asked at a node.
func (m *model) ask(id int, kind uint8, n, from int, known env) int {
	m.say(api.Move{Id: id, Kind: kind, N: n}, from)
	for {
		x := m.hear()
		if x.Arg == 0 && x.N == api.Esc {
			panic(leap{})
		}
		if x.Arg == 0 {
			return x.N
		}
		k := m.kids(from)[x.Arg-1]
		v, jumped := m.guarded(func() int {
			if !m.a.Ids[id-1].Params[x.Arg-1].Cell {
				return m.eval(k, known)
			}
			if x.Kind == api.MovePut {
				return m.put(m.argument(k, known), x.N, k, known)
			}
			return m.get(m.argument(k, known), k, known)
		})
		if jumped != nil {
			m.say(api.Move{Id: id, Arg: x.Arg, Kind: api.MoveTell, N: api.Esc}, k)
			if y := m.hear(); y != (api.Move{Id: id, Kind: api.MoveTell, N: api.Esc}) {
				m.t.Fatalf("%v behind a jump", y)
			}
			panic(*jumped)
		}
		m.say(api.Move{Id: id, Arg: x.Arg, Kind: api.MoveTell, N: v}, k)
	}
}

// get is GetNode's evaluation, put that of PutNode.
func (m *model) get(x thing, from int, known env) int {
	switch x.what {
	case "cell":
		return x.cell.N
	case "identifier":
		return m.ask(x.n, api.MoveAsk, 0, from, known)
	}
	return m.eval(m.kids(x.n)[0], x.env)
}

func (m *model) put(x thing, v, from int, known env) int {
	switch x.what {
	case "cell":
		x.cell.N = v
		return 0
	case "identifier":
		return m.ask(x.n, api.MovePut, v, from, known)
	}
	l := m.kids(x.n)
	return m.eval(l[2], x.env.with(l[1], thing{what: "value", n: v}))
}

// call is the evaluation of a NameNode or a CallNode.
func (m *model) call(n int, known env) int {
	_, x := m.meant(n, known)
	switch x.what {
	case "identifier":
		return m.ask(x.n, api.MoveAsk, 0, n, known)
	case "value":
		return x.n
	}
	l := m.kids(x.n)
	inner := x.env
	switch m.x.T.Nodes[x.n].Kind {
	case api.DefItem, api.FnNode:
		for i, k := range m.kids(n) {
			inner = inner.with(l[i], m.argument(k, known))
		}
		return m.eval(l[len(l)-1], inner)
	}
	return m.eval(x.n, inner)
}

// eval evaluates a node.
func (m *model) eval(n int, known env) int {
	if m.turn.Steps++; m.turn.Steps > 20000 {
		m.limit = true
		panic(halt{})
	}
	x, l := m.x.T.Nodes[n], m.kids(n)
	kid := func(k int) int { return m.eval(l[k], known) }
	switch x.Kind {
	case api.NumNode:
		return x.N
	case api.TrueNode:
		return 1
	case api.FalseNode, api.SkipNode:
		return 0
	case api.AsNode:
		if y := m.x.T.Nodes[l[0]]; y.Kind == api.NumNode {
			return y.N % x.N
		}
		return kid(0) % x.N
	case api.AddNode, api.SubNode, api.MulNode, api.EqNode, api.LessNode:
		a := kid(0)
		b := kid(1)
		return m.operated(n, a, b)
	case api.OrNode:
		if kid(0) == 1 {
			return 1
		}
		return kid(1)
	case api.AndNode:
		if kid(0) == 0 {
			return 0
		}
		return kid(1)
	case api.NotNode:
		return 1 - kid(0)
	case api.IfNode:
		if kid(0) == 0 {
			return kid(2)
		}
		return kid(1)
	case api.NameNode, api.CallNode:
		return m.call(n, known)
	case api.GetNode:
		_, d := m.meant(n, known)
		return m.get(d, n, known)
	case api.PutNode:
		v := kid(0)
		_, d := m.meant(n, known)
		return m.put(d, v, n, known)
	}
	return m.controlled(n, known)
}

// operated returns what comes of two integers.
func (m *model) operated(n, a, b int) int {
	is := map[bool]int{true: 1}
	switch m.x.T.Nodes[n].Kind {
	case api.EqNode:
		return is[a == b]
	case api.LessNode:
		return is[a < b]
	}
	size := fact(m.t, m.sizes, check.Size, m.x.T, n)
	switch m.x.T.Nodes[n].Kind {
	case api.AddNode:
		a += b
	case api.SubNode:
		a -= b
	default:
		a *= b
	}
	for a < 0 {
		a += size
	}
	return a % size
}

// controlled evaluates a node that says what is evaluated at all.
func (m *model) controlled(n int, known env) int {
	x, l := m.x.T.Nodes[n], m.kids(n)
	kid := func(k int) int { return m.eval(l[k], known) }
	switch x.Kind {
	case api.SeqNode:
		for k := range len(l) - 1 {
			kid(k)
		}
		return kid(len(l) - 1)
	case api.WhileNode:
		for kid(0) != 0 {
			kid(1)
		}
		return 0
	case api.ChooseNode:
		m.turn.Picks++
		if m.turn.Picks <= len(m.x.Picks) && m.x.Picks[m.turn.Picks-1]&1 == 1 {
			return kid(1)
		}
		return kid(0)
	case api.HangNode:
		if m.turn.At < len(m.x.Word) {
			m.stop(api.StateOdd)
		}
		m.stop(api.StateHangs)
	case api.JumpNode:
		_, d := m.meant(n, known)
		panic(leap{d.n})
	}
	m.labels++
	here := m.labels
	c := &api.CellSeen{Node: n, N: x.M}
	if x.Kind == api.NewNode {
		m.cells = append(m.cells, c)
		known = known.with(n, thing{what: "cell", cell: c})
	}
	inside := known.with(n, thing{what: "label", n: here})
	if x.Kind != api.LabelNode {
		inside = known
	}
	v, jumped := m.guarded(func() int { return m.eval(l[0], inside) })
	if x.Kind == api.NewNode {
		m.cells = m.cells[:len(m.cells)-1]
	}
	if jumped == nil {
		return v
	}
	if x.Kind == api.NoticeNode {
		_, d := m.meant(n, known)
		d.cell.N = x.N
	}
	if x.Kind == api.LabelNode && jumped.label == here {
		return kid(1)
	}
	panic(*jumped)
}

// store returns the cells that there are.
func (m *model) store() []api.CellSeen {
	var l []api.CellSeen
	for _, c := range m.cells {
		l = append(l, *c)
	}
	return l
}

// compareWithModel tests what is told of a session, and returns its turn, if there is one.
func compareWithModel(t *testing.T, x api.Session, known facts) (api.Turn, bool) {
	t.Helper()
	m := modelled(t, x, known)
	u, e := run.Next(x)
	l, f := run.From(x)
	c, g := run.Store(x)
	if m.limit {
		if e != api.ErrLimit || f != api.ErrLimit || g != api.ErrLimit || !sameTurn(u, api.Turn{}) || len(l)+len(c) > 0 {
			t.Fatalf("%s%s: no ErrLimit: %v, %v, %v", printed(x.T), text(t, x.Word), e, f, g)
		}
		return u, false
	}
	if e != api.OK || !sameTurn(u, m.turn) {
		t.Fatalf("%s%s: Next: %v, %v, not %v", printed(x.T), text(t, x.Word), u, e, m.turn)
	}
	if f != api.OK || !slices.Equal(l, m.from) {
		t.Fatalf("%s%s: From: %v, %v, not %v", printed(x.T), text(t, x.Word), l, f, m.from)
	}
	if g != api.OK || !slices.Equal(c, m.store()) {
		t.Fatalf("%s%s: Store: %v, %v, not %v", printed(x.T), text(t, x.Word), c, g, m.store())
	}
	return u, true
}

// P6.1, P6.4 and P6.5: what is told of random programs along random words is what the model says.
func TestModel(t *testing.T) {
	r := source(2)
	counts := map[string]int{}
	for range 300 {
		x, known := randomSession(r), noFacts()
		a := place(t, x)
		moves, _ := arena.Moves(a)
		for len(x.Word) < 60 {
			u, ok := compareWithModel(t, x, known)
			if !ok {
				counts["limit"]++
				break
			}
			count(counts, x, u)
			// Any moves behind the word, and in the place of the next one.
			w := slices.Concat(x.Word, u.Moves)
			compareWithModel(t, saying(x, append(slices.Clone(x.Word), pick(r, moves...), pick(r, moves...))), known)
			compareWithModel(t, saying(x, append(slices.Clone(w), pick(r, moves...))), known)
			if u.State != api.StateAsks {
				compareWithModel(t, saying(x, w), known)
				break
			}
			x = saying(x, heard(t, r, a, w))
		}
	}
	for _, what := range []string{"over", "hangs", "limit", "lost", "forced", "put", "object", "picks", "cells", "args", "long"} {
		if counts[what] < 5 {
			t.Errorf("%s: %d", what, counts[what])
		}
	}
}

// count counts what happens in sessions.
func count(counts map[string]int, x api.Session, u api.Turn) {
	is := map[string]bool{"over": u.State == api.StateOver, "hangs": u.State == api.StateHangs, "picks": u.Picks > 0, "long": len(x.Word) > 20}
	for _, m := range slices.Concat(x.Word, u.Moves) {
		is["lost"] = is["lost"] || isEsc(m) && m.Id == 0
		is["forced"] = is["forced"] || isEsc(m) && m.Arg > 0
		is["put"] = is["put"] || m.Kind == api.MovePut && m.Arg == 0
		is["object"] = is["object"] || m.Kind == api.MovePut && m.Arg > 0
		is["args"] = is["args"] || m.Arg > 0
	}
	c, _ := run.Store(x)
	is["cells"] = len(c) > 0
	for what, so := range is {
		if so {
			counts[what]++
		}
	}
}
