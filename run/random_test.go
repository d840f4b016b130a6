package run_test

import (
	"math/rand"
	"testing"

	"riposte/api"
	"riposte/play"
	"riposte/sample"
)

func cell(n int) api.Base { return api.Base{Cell: true, N: n} }

// randomSession returns a random session with the empty word.
func randomSession(r *rand.Rand) api.Session {
	x := api.Session{T: sample.Tree(r.Intn), Export: "m", Jumps: r.Intn(3) == 0}
	for range r.Intn(6) {
		x.Picks = append(x.Picks, r.Intn(5)-1)
	}
	return x
}

// heard returns a word with a random move of the other one; questions of arguments come often, jumps seldom.
func heard(t *testing.T, r *rand.Rand, a api.Arena, w api.Word) api.Word {
	t.Helper()
	l, e := play.Next(a, w)
	if e != api.OK || len(l) == 0 {
		t.Fatalf("Next of %s: %v, %v", text(t, w), l, e)
	}
	m := pick(r, l...)
	for range 2 {
		if isEsc(m) && r.Intn(3) > 0 || m.Kind == api.MoveTell && r.Intn(3) == 0 && len(w) < 40 {
			m = pick(r, l...)
		}
	}
	return append(w[:len(w):len(w)], m)
}
