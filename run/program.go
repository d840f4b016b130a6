package run

import (
	"riposte/api"
	"riposte/check"
)

// program is the program of a session, with the arena of an export, and how its terms are evaluated.
type program struct {
	api.Tree
	api.Arena
	export string
	rules  map[uint8]func(visit) ending
	sizes  map[int]int // those of the terms that have been asked for theirs
}

// newProgram returns the program of a session, if this has no error.
func newProgram(x api.Session) (program, api.Errno) {
	a, _, e := check.Arena(x.T, x.Export, x.Jumps)
	if e != api.OK {
		return program{}, e
	}
	if len(x.Word) > api.MaxWord || len(x.Picks) > api.MaxPicks {
		return program{}, api.ErrLimit
	}
	return program{x.T, a, x.Export, rules(), map[int]int{}}, api.OK
}

// size returns the size that a term is given. To ask for one is slow, and a loop would ask for the same ones again and again.
func (p program) size(n int) int {
	if p.sizes[n] == 0 {
		p.sizes[n], _ = check.Size(p.Tree, n)
	}
	return p.sizes[n]
}
