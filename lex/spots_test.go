package lex_test

import (
	"cmp"
	"math"
	"strings"
	"testing"

	"riposte/api"
	"riposte/lex"
)

// P1.2: Spot, and At the other way round.
func TestSpot(t *testing.T) {
	for _, x := range []struct {
		s    string
		at   int
		want api.Spot
	}{
		{"", 0, api.Spot{Line: 1, Column: 1}},
		{"a\nbc", 0, api.Spot{Line: 1, Column: 1}},
		{"a\nbc", 1, api.Spot{Line: 1, Column: 2}},
		{"a\nbc", 2, api.Spot{Line: 2, Column: 1}},
		{"a\nbc", 3, api.Spot{Line: 2, Column: 2}},
		{"a\nbc", 4, api.Spot{Line: 2, Column: 3}},
		{"\n\n", 0, api.Spot{Line: 1, Column: 1}},
		{"\n\n", 1, api.Spot{Line: 2, Column: 1}},
		{"\n\n", 2, api.Spot{Line: 3, Column: 1}},
		{"# 01 A\n>", 7, api.Spot{Line: 2, Column: 1}},
		{"~a\n", 3, api.Spot{Line: 2, Column: 1}},
		{long(2500), 2500, api.Spot{Line: 1, Column: 2501}},
		{strings.Repeat("\n", 2500), 2500, api.Spot{Line: 2501, Column: 1}},
	} {
		if p, e := lex.Spot(x.s, x.at); p != x.want || e != api.OK {
			t.Errorf("Spot of %.20q, %d: %v, %v", x.s, x.at, p, e)
		}
		if n, e := lex.At(x.s, x.want); n != x.at || e != api.OK {
			t.Errorf("At of %.20q, %v: %d, %v", x.s, x.want, n, e)
		}
	}
}

// P1.2: the errors of Spot.
func TestSpotErrors(t *testing.T) {
	for _, x := range []struct {
		s  string
		at int
		e  api.Errno
	}{
		{"a", 2, api.ErrRange},
		{"a", -1, api.ErrRange},
		{"", 1, api.ErrRange},
		{"a", math.MaxInt, api.ErrRange},
		{"a", math.MinInt, api.ErrRange},
		{"\t", 0, api.ErrArg},
		{"\t", 9, api.ErrArg},
		{"a\x80", -1, api.ErrArg},
		{long(2501), 0, api.ErrLimit},
		{"\t" + long(2500), -1, api.ErrLimit},
	} {
		if p, e := lex.Spot(x.s, x.at); p != (api.Spot{}) || e != x.e {
			t.Errorf("%.20q, %d: %v, %v", x.s, x.at, p, e)
		}
	}
}

// P1.2: the errors of At.
func TestAtErrors(t *testing.T) {
	for _, x := range []struct {
		s            string
		line, column int
		e            api.Errno
	}{
		{"a\nbc", 1, 3, api.ErrNone},
		{"a\nbc", 2, 4, api.ErrNone},
		{"a\nbc", 3, 1, api.ErrNone},
		{"a\nbc", 0, 1, api.ErrNone},
		{"a\nbc", 1, 0, api.ErrNone},
		{"a\nbc", 0, 0, api.ErrNone},
		{"a\nbc", -1, 1, api.ErrNone},
		{"a\nbc", 1, -1, api.ErrNone},
		{"a\nbc", 2, 0, api.ErrNone},
		{"a\nbc", 2, -1, api.ErrNone},
		{"", 1, 2, api.ErrNone},
		{"", 2, 1, api.ErrNone},
		{"\n", 3, 1, api.ErrNone},
		{"\n", 1, 2, api.ErrNone},
		{"\n", 2, 2, api.ErrNone},
		{"a\nbc", 2, math.MaxInt, api.ErrNone},
		{"a\nbc", 2, math.MinInt, api.ErrNone},
		{"a\nbc", math.MaxInt, 1, api.ErrNone},
		{"a\nbc", math.MinInt, 1, api.ErrNone},
		{"a\nbc", math.MaxInt, math.MaxInt, api.ErrNone},
		{"\t", 1, 1, api.ErrArg},
		{"\t", 0, 0, api.ErrArg},
		{long(2501), 1, 1, api.ErrLimit},
		{"\t" + long(2500), 9, 9, api.ErrLimit},
	} {
		if n, e := lex.At(x.s, api.Spot{Line: x.line, Column: x.column}); n != 0 || e != x.e {
			t.Errorf("%.20q, %d, %d: %d, %v", x.s, x.line, x.column, n, e)
		}
	}
}

// bySpot compares spots by line, then column.
func bySpot(p, q api.Spot) int {
	return cmp.Or(cmp.Compare(p.Line, q.Line), cmp.Compare(p.Column, q.Column))
}

// P1.11: At of what Spot returns is the place, and the other way round; spots rise as places do.
func TestPlaces(t *testing.T) {
	r := source(2)
	for i := range 300 {
		s := anyText(r, i%20)
		spots := map[api.Spot]int{}
		last := api.Spot{}
		for n := range len(s) + 1 {
			p, e := lex.Spot(s, n)
			if e != api.OK || bySpot(last, p) >= 0 {
				t.Fatalf("Spot of %q, %d: %v, %v, after %v", s, n, p, e, last)
			}
			spots[p] = n
			last = p
		}
		lines := strings.Count(s, "\n") + 1
		for line := range lines + 3 {
			for column := range len(s) + 4 {
				p := api.Spot{Line: line, Column: column}
				want, there := spots[p]
				n, e := lex.At(s, p)
				if n != want || there != (e == api.OK) || !there && e != api.ErrNone {
					t.Fatalf("At of %q, %v: %d, %v", s, p, n, e)
				}
			}
		}
	}
}
