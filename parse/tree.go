package parse

import (
	"iter"
	"slices"

	"riposte/api"
)

// told returns what is told of a node, if the tree has no error and there is such a node.
func told[T any](t api.Tree, n int, tell func() (T, api.Errno)) (T, api.Errno) {
	var nothing T
	if e := Check(t); e != api.OK {
		return nothing, e
	}
	if n < 0 || n >= len(t.Nodes) {
		return nothing, api.ErrRange
	}
	return tell()
}

// above yields the nodes above a node, the nearest one first.
func above(l []api.TreeNode, n int) iter.Seq[int] {
	return func(yield func(int) bool) {
		for k := n - 1; k >= 0; k-- {
			if k+l[k].Size > n && !yield(k) {
				return
			}
		}
	}
}

// Kids returns the kids of a node.
func Kids(t api.Tree, n int) ([]int, api.Errno) {
	return told(t, n, func() ([]int, api.Errno) {
		return slices.Collect(kidsOf(t.Nodes, n)), api.OK
	})
}

// Up returns the node whose kid a node is.
func Up(t api.Tree, n int) (int, api.Errno) {
	return told(t, n, func() (int, api.Errno) {
		for k := range above(t.Nodes, n) {
			return k, api.OK
		}
		return 0, api.ErrNone
	})
}

// Sub returns the nodes of a node.
func Sub(t api.Tree, n int) ([]api.TreeNode, api.Errno) {
	return told(t, n, func() ([]api.TreeNode, api.Errno) {
		return slices.Clone(t.Nodes[n : n+t.Nodes[n].Size]), api.OK
	})
}

// Graft returns the tree in which a node has become other nodes.
func Graft(t api.Tree, n int, l []api.TreeNode) (api.Tree, api.Errno) {
	return told(t, n, func() (api.Tree, api.Errno) {
		size := t.Nodes[n].Size
		grafted := api.Tree{Nodes: slices.Concat(t.Nodes[:n], l, t.Nodes[n+size:])}
		for k := range above(t.Nodes, n) {
			grafted.Nodes[k].Size += len(l) - size
		}
		return checked(grafted)
	})
}

// Find returns the first item with a name.
func Find(t api.Tree, name string) (int, api.Errno) {
	return told(t, 0, func() (int, api.Errno) {
		for n := range kidsOf(t.Nodes, 0) {
			if t.Nodes[n].Text == name {
				return n, api.OK
			}
		}
		return 0, api.ErrNone
	})
}

// Bare returns the tree without places.
func Bare(t api.Tree) (api.Tree, api.Errno) {
	return told(t, 0, func() (api.Tree, api.Errno) {
		l := slices.Clone(t.Nodes)
		for n := range l {
			l[n].At = 0
		}
		return api.Tree{Nodes: l}, api.OK
	})
}
