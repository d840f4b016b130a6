package lex_test

import (
	"math"
	"reflect"
	"slices"
	"strings"
	"testing"

	"riposte/api"
	"riposte/lex"
)

// strange are texts, right and wrong ones.
var strange = []string{
	"", " ", "\n", "~", "~\n", "x", "if", "0", "01", "1000001", ":", ":=", "=", "-", "->", ">", "(", ")", "{", "}", "(){}", "({)}", "x:=1 ~a", "a\nbc", "#", "A", "\t", "\x00", "\x7f", "\xff\xfe", "é",
	strings.Repeat("(", 900), strings.Repeat("(", 901), strings.Repeat("9", 2500), strings.Repeat("z", 2500), long(2500), long(2501), strings.Repeat("x ", 100000),
}

var numbers = []int{math.MinInt, math.MinInt + 1, -2, -1, 0, 1, 2, 3, 5, 900, 2499, 2500, 2501, math.MaxInt - 1, math.MaxInt}

// calls are all functions of lex, with arguments and results as lists of any.
func calls(s, u string, n, m int, l []api.Token, x []api.Splice) map[string][]any {
	r := map[string][]any{}
	tell := func(name string, results ...any) { r[name] = results }
	l1, n1, e1 := lex.Tokens(s)
	tell("Tokens", l1, n1, e1)
	l2, e2 := lex.Notes(s)
	tell("Notes", l2, e2)
	p3, e3 := lex.Spot(s, n)
	tell("Spot", p3, e3)
	n4, e4 := lex.At(s, api.Spot{Line: n, Column: m})
	tell("At", n4, e4)
	s5, e5 := lex.Tight(l)
	tell("Tight", s5, e5)
	l6, n6, e6 := lex.Pairs(l)
	tell("Pairs", l6, n6, e6)
	s7, e7 := lex.Apply(s, x)
	tell("Apply", s7, e7)
	n8, e8 := lex.Moved(s, x, n)
	tell("Moved", n8, e8)
	l9, e9 := lex.Undo(s, x)
	tell("Undo", l9, e9)
	l10, e10 := lex.Diff(s, u)
	tell("Diff", l10, e10)
	h11, n11, e11 := lex.Kept(s, splice(n, m, u))
	tell("Kept", h11, n11, e11)
	s12, e12 := lex.Rename(s, u, strings.TrimSpace(s))
	tell("Rename", s12, e12)
	return r
}

// isZero tells whether a result is its zero value (a list: empty).
func isZero(x any) bool {
	v := reflect.ValueOf(x)
	return v.IsZero() || v.Kind() == reflect.Slice && v.Len() == 0
}

// checkErrors tests R2: with an error every result is a zero value, but the places of Tokens and Pairs.
func checkErrors(t *testing.T, r map[string][]any) {
	t.Helper()
	for name, l := range r {
		if l[len(l)-1] == api.OK {
			continue
		}
		for i, x := range l[:len(l)-1] {
			if place := i == 1 && (name == "Tokens" || name == "Pairs"); !place && !isZero(x) {
				t.Fatalf("%s: %.200v", name, l)
			}
		}
	}
}

// P1, P2, R2 and R8: all functions, with any values.
func TestAnyValues(t *testing.T) {
	r := source(9)
	for i := range 6000 {
		s, u := strange[r.Intn(len(strange))], strange[r.Intn(len(strange))]
		n, m := numbers[r.Intn(len(numbers))], numbers[r.Intn(len(numbers))]
		var l []api.Token
		for range i % 4 {
			l = append(l, api.Token{Kind: uint8(r.Intn(8)), Text: strange[r.Intn(len(strange))], At: n})
		}
		var x []api.Splice
		for range i % 3 {
			x = append(x, splice(n, m, u))
		}
		l2, x2 := slices.Clone(l), slices.Clone(x)
		first := calls(s, u, n, m, l, x)
		checkErrors(t, first)
		if second := calls(s, u, n, m, l2, x2); !reflect.DeepEqual(first, second) {
			t.Fatalf("%.100q, %.100q, %d, %d: results differ", s, u, n, m)
		}
		if !slices.Equal(l, l2) || !slices.Equal(x, x2) {
			t.Fatal("an argument was changed")
		}
	}
}

// spare returns a list with room behind its end, and all of the memory.
func spare[T any](l []T, sentinel T) (list, all []T) {
	all = append(slices.Clone(l), slices.Repeat([]T{sentinel}, 8)...)
	return all[:len(l)], all
}

// fill changes all memory of a list.
func fill[T any](l []T, x T) {
	l = l[:cap(l)]
	for i := range l {
		l[i] = x
	}
}

// P2 and R4: neither arguments nor what lies behind their ends are changed; results are new memory.
func TestMemory(t *testing.T) {
	s := "f(x,{y}) ~n\n:= 12"
	l, all := spare(tokens(t, s), note("sentinel"))
	x, allX := spare([]api.Splice{splice(0, 1, "ab"), splice(2, 3, ""), splice(5, 5, " ")}, splice(7, 7, "sentinel"))
	wantL, wantX := slices.Clone(all), slices.Clone(allX)
	want := calls(s, "g(x)", 4, 1, l, x)
	for range 3 {
		got := calls(s, "g(x)", 4, 1, l, x)
		if !reflect.DeepEqual(got, want) || !slices.Equal(all, wantL) || !slices.Equal(allX, wantX) {
			t.Fatalf("%v, not %v; %v; %v", got, want, all, allX)
		}
		for _, results := range got {
			switch list := results[0].(type) {
			case []api.Token:
				fill(list, note("spoilt"))
			case []api.Splice:
				fill(list, splice(-1, -1, "spoilt"))
			case []int:
				fill(list, -99)
			}
		}
		if !slices.Equal(all, wantL) || !slices.Equal(allX, wantX) {
			t.Fatal("a result shares memory with an argument")
		}
	}
}

// R3: nil and empty lists are the same.
func TestNilAndEmpty(t *testing.T) {
	for _, s := range []string{"", "x 1", "01", "\t"} {
		none := calls(s, "y", 1, 1, nil, nil)
		empty := calls(s, "y", 1, 1, []api.Token{}, []api.Splice{})
		for name, l := range none {
			for i, x := range l {
				if !reflect.DeepEqual(x, empty[name][i]) && !(isZero(x) && isZero(empty[name][i])) {
					t.Errorf("%s of %q: %v, %v", name, s, l, empty[name])
				}
			}
		}
	}
}

// R1: the order of errors in Apply, Moved, Undo, Kept and Rename, where all that can be wrong is wrong.
func TestOrderOfErrors(t *testing.T) {
	many := slices.Repeat([]api.Splice{splice(9, 8, "\t"+long(3000))}, 41)
	for _, x := range []struct {
		s string
		l []api.Splice
		e api.Errno
	}{
		{long(2500) + "\t", many, api.ErrLimit},
		{"\t", many, api.ErrArg},
		{"01", many, api.ErrLimit},
		{"01", many[:40], api.ErrRange},
		{"01", []api.Splice{splice(0, 0, "\t"+long(3000))}, api.ErrArg},
		{"01", []api.Splice{splice(0, 0, long(3000))}, api.ErrLimit},
	} {
		if _, e := lex.Apply(x.s, x.l); e != x.e {
			t.Errorf("Apply: %v, not %v", e, x.e)
		}
		if _, e := lex.Moved(x.s, x.l, -1); e != x.e {
			t.Errorf("Moved: %v, not %v", e, x.e)
		}
		if _, e := lex.Undo(x.s, x.l); e != x.e {
			t.Errorf("Undo: %v, not %v", e, x.e)
		}
		if len(x.l) != 1 {
			continue
		}
		if _, _, e := lex.Kept(x.s, x.l[0]); e != x.e {
			t.Errorf("Kept: %v, not %v", e, x.e)
		}
	}
}
