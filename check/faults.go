package check

import "riposte/api"

// fault is an error that nodes of an item can have.
type fault struct {
	errno api.Errno
	has   func(n int) bool
}

// firstFault returns the error of an item, and its node.
func (f *fit) firstFault() (int, api.Errno) {
	faults := []fault{
		{api.ErrTwice, f.isTwice},
		{api.ErrRange, f.isOutOfRange},
		{api.ErrName, f.isUnknown},
		{api.ErrType, f.isWrong},
	}
	for _, x := range faults {
		for n := f.item; n < f.end(f.item); n++ {
			if x.has(n) {
				return n, x.errno
			}
		}
	}
	return 0, api.OK
}

// isTwice tells whether a node is a declaration whose name has been taken.
func (f *fit) isTwice(n int) bool {
	if !f.declares(n) {
		return false
	}
	for d := range len(f.Nodes) {
		if f.Nodes[d].Text == f.Nodes[n].Text && f.declares(d) && f.takes(d, n) {
			return true
		}
	}
	return false
}

// takes tells whether a declaration takes its name from one in the item.
func (f *fit) takes(d, n int) bool {
	if f.isItem(d) {
		return d < n || d != n && n != f.item
	}
	return d > f.item && d < n
}

func (f *fit) isOutOfRange(n int) bool {
	x := f.Nodes[n]
	if f.is(n, api.NewNode) && x.M >= x.N {
		return true
	}
	sized := f.is(n, api.IntType, api.CellType, api.NewNode, api.AsNode)
	return sized && (x.N < 1 || x.N > api.MaxSize)
}

func (f *fit) isUnknown(n int) bool { return f.mentions(n) && f.meant[n] == 0 }

func (f *fit) isWrong(n int) bool { return f.wrong[n] }
