package sample_test

import (
	"math/rand"
	"testing"

	"riposte/api"
	"riposte/check"
	"riposte/parse"
	"riposte/sample"
)

// Programs have no errors, but that some are too long; all kinds of nodes come, and an export m.
func TestProgram(t *testing.T) {
	r := rand.New(rand.NewSource(1))
	kinds := map[uint8]int{}
	tooLong := 0
	for range 1000 {
		s := sample.Program(r.Intn)
		x, at, e := parse.Parse(s)
		if e == api.ErrLimit {
			tooLong++
			continue
		}
		if e != api.OK {
			t.Fatalf("Parse of %s: %d, %v", s, at, e)
		}
		if n, e := check.Program(x); e != api.OK {
			t.Fatalf("Program of %s: %d, %v", s, n, e)
		}
		if n, e := parse.Find(x, "m"); e != api.OK || x.Nodes[n].Kind != api.ExportItem {
			t.Fatalf("Find of %s: %d, %v", s, n, e)
		}
		for _, y := range x.Nodes {
			kinds[y.Kind]++
		}
	}
	for k := api.ProgramNode; k <= api.BindNode; k++ {
		if kinds[k] < 50 {
			t.Errorf("kind %d: %d nodes", k, kinds[k])
		}
	}
	if tooLong > 100 {
		t.Errorf("%d programs are too long", tooLong)
	}
}

// The same numbers make the same program.
func TestSame(t *testing.T) {
	for seed := range int64(50) {
		if sample.Program(rand.New(rand.NewSource(seed)).Intn) != sample.Program(rand.New(rand.NewSource(seed)).Intn) {
			t.Fatalf("%d: two programs", seed)
		}
	}
}
