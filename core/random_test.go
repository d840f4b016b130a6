package core_test

import (
	"math/rand"

	"riposte/api"
)

// writer writes random terms that are right.
type writer struct {
	r      *rand.Rand
	a      api.Arena
	inner  []api.Base // what is in sight besides the arena's identifiers
	labels int
}

func integer(n int) api.Base { return api.Base{N: n} }

func cell(n int) api.Base { return api.Base{Cell: true, N: n} }

func (w *writer) size() int { return pick(w.r, 1, 1, 2, 2, 3, 3, 64) }

// base returns a random base type.
func (w *writer) base() api.Base { return api.Base{Cell: w.r.Intn(2) == 0, N: w.size()} }

// randomArena returns an arena for a random term, which has a cell as Root now and then.
func randomArena(r *rand.Rand) api.Arena {
	w := &writer{r: r}
	a := api.Arena{Root: integer(w.size()), Jumps: r.Intn(2) == 0}
	a.Root.Cell = r.Intn(6) == 0
	for range r.Intn(api.MaxIds + 1) {
		t := api.Type{Result: w.base()}
		if r.Intn(2) == 0 {
			t.Result.Cell = false
			for range 1 + r.Intn(3) {
				t.Params = append(t.Params, w.base())
			}
		}
		a.Ids = append(a.Ids, t)
	}
	return a
}

// randomTerm returns an arena, and a term that is right in it.
func randomTerm(r *rand.Rand) (api.Arena, api.Term) {
	for {
		w := &writer{r: r, a: randomArena(r)}
		if x := w.argument(w.a.Root, 1+r.Intn(6)); count(x) <= 300 {
			return w.a, x
		}
	}
}

// ids returns the numbers of all that is in sight without params for which something is so.
func (w *writer) ids(isRight func(id int, b api.Base) bool) []int {
	var l []int
	for i, t := range w.a.Ids {
		if len(t.Params) == 0 && isRight(i+1, t.Result) {
			l = append(l, i+1)
		}
	}
	for i, b := range w.inner {
		if id := len(w.a.Ids) + i + 1; isRight(id, b) {
			l = append(l, id)
		}
	}
	return l
}

// with writes something where one thing more is in sight.
func (w *writer) with(b api.Base, write func() api.Term) api.Term {
	w.inner = append(w.inner, b)
	x := write()
	w.inner = w.inner[:len(w.inner)-1]
	return x
}

// argument writes an argument for a base type.
func (w *writer) argument(b api.Base, depth int) api.Term {
	if !b.Cell {
		return w.term(b.N, depth)
	}
	if l := w.ids(func(_ int, x api.Base) bool { return x == b }); len(l) > 0 && w.r.Intn(2) == 0 {
		return api.Term{Kind: api.TermCell, Id: pick(w.r, l...)}
	}
	get := w.term(b.N, depth-1)
	put := w.with(integer(b.N), func() api.Term { return w.term(1, depth-1) })
	return api.Term{Kind: api.TermObject, Kids: []api.Term{get, put}}
}

// leaf writes a term of a size without kids, if there is one of the kind that is picked.
func (w *writer) leaf(size int) api.Term {
	isValue := func(id int, b api.Base) bool { return id > len(w.a.Ids) && b == integer(size) }
	isCell := func(_ int, b api.Base) bool { return b == cell(size) }
	isPlain := func(id int, b api.Base) bool { return id <= len(w.a.Ids) && b == integer(size) }
	l := w.ids(isValue)
	kind := pick(w.r, api.TermNum, api.TermVal, api.TermGet, api.TermUse, api.TermHang, api.TermJump)
	switch kind {
	case api.TermGet:
		l = w.ids(isCell)
	case api.TermUse:
		l = w.ids(isPlain)
	case api.TermHang:
		if size == 1 {
			return api.Term{Kind: kind}
		}
		l = nil
	case api.TermJump:
		if size == 1 && w.labels > 0 {
			return api.Term{Kind: kind, N: w.r.Intn(w.labels)}
		}
		l = nil
	}
	if kind == api.TermNum || len(l) == 0 {
		return api.Term{Kind: api.TermNum, N: w.r.Intn(size), M: size}
	}
	return api.Term{Kind: kind, Id: pick(w.r, l...)}
}

// term writes a term of a size.
func (w *writer) term(size, depth int) api.Term {
	if depth <= 0 {
		return w.leaf(size)
	}
	depth--
	kids := func(sizes ...int) []api.Term {
		var l []api.Term
		for _, s := range sizes {
			l = append(l, w.term(s, depth))
		}
		return l
	}
	switch w.r.Intn(12) {
	case 0:
		return api.Term{Kind: api.TermSeq, Kids: kids(1, size)}
	case 1:
		return api.Term{Kind: api.TermIf, Kids: kids(w.size(), size, size)}
	case 2:
		return api.Term{Kind: api.TermChoose, Kids: kids(size, size)}
	case 3:
		return api.Term{Kind: api.TermAs, N: size, Kids: kids(w.size())}
	case 4:
		return api.Term{Kind: api.TermOp, N: pick(w.r, api.OpAdd, api.OpSub, api.OpMul), M: size, Kids: kids(size, size)}
	case 5:
		return w.newCell(size, depth)
	case 6:
		return w.label(size, depth)
	case 7, 8:
		return w.use(size, depth)
	case 9:
		return w.notice(size, depth)
	}
	return w.ofSize(size, depth)
}

// ofSize writes a term of a kind that has this size alone.
func (w *writer) ofSize(size, depth int) api.Term {
	isCell := func(_ int, b api.Base) bool { return b.Cell }
	switch {
	case size == 2:
		m := w.size()
		return api.Term{Kind: api.TermOp, N: pick(w.r, api.OpEq, api.OpLess), M: m, Kids: []api.Term{w.term(m, depth), w.term(m, depth)}}
	case size == 1 && w.r.Intn(3) == 0:
		return api.Term{Kind: api.TermWhile, Kids: []api.Term{w.term(w.size(), depth), w.term(1, depth)}}
	case size == 1:
		if l := w.ids(isCell); len(l) > 0 {
			id := pick(w.r, l...)
			return api.Term{Kind: api.TermPut, Id: id, Kids: []api.Term{w.term(w.sizeOf(id), depth)}}
		}
	}
	return w.leaf(size)
}

// sizeOf returns the size of what is in sight by a number.
func (w *writer) sizeOf(id int) int {
	if n := len(w.a.Ids); id > n {
		return w.inner[id-n-1].N
	}
	return w.a.Ids[id-1].Result.N
}

func (w *writer) newCell(size, depth int) api.Term {
	n := w.size()
	kid := w.with(cell(n), func() api.Term { return w.term(size, depth) })
	return api.Term{Kind: api.TermNew, N: n, M: w.r.Intn(n), Kids: []api.Term{kid}}
}

func (w *writer) label(size, depth int) api.Term {
	w.labels++
	first := w.term(size, depth)
	w.labels--
	return api.Term{Kind: api.TermLabel, Kids: []api.Term{first, w.term(size, depth)}}
}

func (w *writer) notice(size, depth int) api.Term {
	l := w.ids(func(id int, b api.Base) bool { return id > len(w.a.Ids) && b.Cell })
	if len(l) == 0 {
		return w.newCell(size, depth)
	}
	id := pick(w.r, l...)
	return api.Term{Kind: api.TermNotice, Id: id, N: w.r.Intn(w.sizeOf(id)), Kids: []api.Term{w.term(size, depth)}}
}

// use writes a term that asks an identifier with params, if there is one.
func (w *writer) use(size, depth int) api.Term {
	var l []int
	for i, t := range w.a.Ids {
		if len(t.Params) > 0 && t.Result.N == size {
			l = append(l, i+1)
		}
	}
	if len(l) == 0 {
		return w.leaf(size)
	}
	x := api.Term{Kind: api.TermUse, Id: pick(w.r, l...)}
	for _, b := range w.a.Ids[x.Id-1].Params {
		x.Kids = append(x.Kids, w.argument(b, depth))
	}
	return x
}

// bent returns a term of which something has been changed, so that it may not be right.
func bent(r *rand.Rand, x api.Term) api.Term {
	at := r.Intn(count(x))
	return changed(x, func(y *api.Term) {
		if at--; at != -1 {
			return
		}
		switch r.Intn(8) {
		case 0:
			y.Kind = uint8(r.Intn(21))
		case 1:
			y.Id = pick(r, y.Id+1, y.Id-1, 0, values[r.Intn(len(values))])
		case 2:
			y.N = pick(r, y.N+1, y.N-1, 0, values[r.Intn(len(values))])
		case 3:
			y.M = pick(r, y.M+1, y.M-1, 0, values[r.Intn(len(values))])
		case 4:
			y.Kids = append(y.Kids, api.Term{Kind: api.TermHang})
		case 5:
			y.Kids = y.Kids[:max(len(y.Kids)-1, 0)]
		case 6:
			if n := len(y.Kids); n > 1 {
				y.Kids[0], y.Kids[n-1] = y.Kids[n-1], y.Kids[0]
			}
		case 7:
			if n := len(y.Kids); n > 0 {
				*y = y.Kids[r.Intn(n)]
			}
		}
	})
}
