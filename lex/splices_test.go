package lex_test

import (
	"math"
	"slices"
	"strings"
	"testing"

	"riposte/api"
	"riposte/lex"
)

// P1.5 and P1.6: Apply and Undo.
func TestApplyAndUndo(t *testing.T) {
	for _, x := range []struct {
		s    string
		l    []api.Splice
		want string
		undo []api.Splice
	}{
		{"", nil, "", nil},
		{"abc", nil, "abc", nil},
		{"abc", []api.Splice{}, "abc", nil},
		{"abc", []api.Splice{splice(1, 2, "xy")}, "axyc", []api.Splice{splice(1, 3, "b")}},
		{"abc", []api.Splice{splice(1, 1, "")}, "abc", []api.Splice{splice(1, 1, "")}},
		{"abc", []api.Splice{splice(0, 3, "")}, "", []api.Splice{splice(0, 0, "abc")}},
		{"", []api.Splice{splice(0, 0, "abc")}, "abc", []api.Splice{splice(0, 3, "")}},
		{"abc", []api.Splice{splice(3, 3, "\n~ #")}, "abc\n~ #", []api.Splice{splice(3, 7, "")}},
		{"abcdef", []api.Splice{splice(0, 1, ""), splice(1, 2, "xyz"), splice(4, 5, "+")}, "xyzcd+f", []api.Splice{splice(0, 0, "a"), splice(0, 3, "b"), splice(5, 6, "e")}},
		{"abc", []api.Splice{splice(0, 0, "1"), splice(0, 0, "2"), splice(0, 3, ""), splice(3, 3, "3")}, "123", []api.Splice{splice(0, 1, ""), splice(1, 2, ""), splice(2, 2, "abc"), splice(2, 3, "")}},
		{"ab", []api.Splice{splice(0, 1, "b"), splice(1, 2, "a")}, "ba", []api.Splice{splice(0, 1, "a"), splice(1, 2, "b")}},
		{"# 01", []api.Splice{splice(0, 1, "A>")}, "A> 01", []api.Splice{splice(0, 2, "#")}},
	} {
		if s, e := lex.Apply(x.s, x.l); s != x.want || e != api.OK {
			t.Errorf("Apply of %q with %v: %q, %v", x.s, x.l, s, e)
		}
		if l, e := lex.Undo(x.s, x.l); !slices.Equal(l, x.undo) || e != api.OK {
			t.Errorf("Undo of %q with %v: %v, %v", x.s, x.l, l, e)
		}
	}
}

// spliceErrors are texts and splices with the error that is named first.
var spliceErrors = []struct {
	s string
	l []api.Splice
	e api.Errno
}{
	{"abc", []api.Splice{splice(-1, 2, "")}, api.ErrRange},
	{"abc", []api.Splice{splice(2, 1, "")}, api.ErrRange},
	{"abc", []api.Splice{splice(2, 4, "")}, api.ErrRange},
	{"abc", []api.Splice{splice(4, 4, "")}, api.ErrRange},
	{"", []api.Splice{splice(0, 1, "")}, api.ErrRange},
	{"abc", []api.Splice{splice(2, 3, ""), splice(1, 2, "")}, api.ErrRange},
	{"abc", []api.Splice{splice(0, 2, ""), splice(1, 2, "")}, api.ErrRange},
	{"abc", []api.Splice{splice(0, 2, ""), splice(1, 1, "")}, api.ErrRange},
	{"abc", []api.Splice{splice(0, math.MaxInt, "")}, api.ErrRange},
	{"abc", []api.Splice{splice(math.MinInt, math.MaxInt, "")}, api.ErrRange},
	{"abc", []api.Splice{splice(math.MaxInt, math.MinInt, "")}, api.ErrRange},
	{"abc", []api.Splice{splice(0, 1, "\t")}, api.ErrArg},
	{"abc", []api.Splice{splice(0, 1, "x"), splice(1, 1, "a\x7f")}, api.ErrArg},
	{"abc", []api.Splice{splice(0, 1, "\x80")}, api.ErrArg},
	{"abc", []api.Splice{splice(0, 1, "\t"), splice(3, 4, "")}, api.ErrRange},
	{"abc", []api.Splice{splice(3, 3, long(2498))}, api.ErrLimit},
	{"abc", []api.Splice{splice(0, 0, long(1250)), splice(3, 3, long(1248))}, api.ErrLimit},
	{long(2500), []api.Splice{splice(7, 8, "xy")}, api.ErrLimit},
	{"", []api.Splice{splice(0, 0, long(5000))}, api.ErrLimit},
	{"", []api.Splice{splice(0, 0, long(5000)+"\t")}, api.ErrArg},
	{"", []api.Splice{splice(0, 0, long(5000)), splice(0, 0, "\t")}, api.ErrArg},
	{"", []api.Splice{splice(0, 0, long(5000)), splice(0, 1, "")}, api.ErrRange},
	{"", slices.Repeat([]api.Splice{splice(0, 0, "")}, 41), api.ErrLimit},
	{"", slices.Repeat([]api.Splice{splice(-1, 0, "\t")}, 41), api.ErrLimit},
	{"a\t", nil, api.ErrArg},
	{"a\t", []api.Splice{splice(1, 2, "")}, api.ErrArg},
	{"a\t", []api.Splice{splice(9, 9, "")}, api.ErrArg},
	{"a\t", slices.Repeat([]api.Splice{splice(0, 0, "")}, 41), api.ErrArg},
	{long(2501), nil, api.ErrLimit},
	{long(2501), []api.Splice{splice(0, 1, "")}, api.ErrLimit},
	{long(2501) + "\t", []api.Splice{splice(-1, 1, "\t")}, api.ErrLimit},
}

// P1.5, P1.6 and P1.8: the errors of splices.
func TestSpliceErrors(t *testing.T) {
	for i, x := range spliceErrors {
		if s, e := lex.Apply(x.s, x.l); s != "" || e != x.e {
			t.Errorf("%d: Apply: %.60q, %v", i, s, e)
		}
		if l, e := lex.Undo(x.s, x.l); len(l) != 0 || e != x.e {
			t.Errorf("%d: Undo: %v, %v", i, l, e)
		}
		for _, n := range []int{0, -1, len(x.s) + 1} {
			if to, e := lex.Moved(x.s, x.l, n); to != 0 || e != x.e {
				t.Errorf("%d: Moved of %d: %d, %v", i, n, to, e)
			}
		}
		if len(x.l) != 1 {
			continue
		}
		if h, n, e := lex.Kept(x.s, x.l[0]); h != 0 || n != 0 || e != x.e {
			t.Errorf("%d: Kept: %d, %d, %v", i, h, n, e)
		}
	}
}

// P1.5 and R7: limits are reached.
func TestSpliceLimits(t *testing.T) {
	many := slices.Repeat([]api.Splice{splice(0, 0, "xy")}, 40)
	if s, e := lex.Apply("z", many); s != strings.Repeat("xy", 40)+"z" || e != api.OK {
		t.Errorf("40 splices: %q, %v", s, e)
	}
	if n, e := lex.Moved("z", many, 0); n != 80 || e != api.OK {
		t.Errorf("40 splices: %d, %v", n, e)
	}
	if l, e := lex.Undo("z", many); len(l) != 40 || e != api.OK || l[39] != splice(78, 80, "") {
		t.Errorf("40 splices: %v, %v", l, e)
	}
	if s, e := lex.Apply("abc", []api.Splice{splice(3, 3, long(2497))}); len(s) != 2500 || e != api.OK {
		t.Errorf("2500 bytes: %d, %v", len(s), e)
	}
	// Only the text after all splices counts.
	if s, e := lex.Apply(long(2500), []api.Splice{splice(0, 0, long(2500)), splice(0, 2500, "")}); len(s) != 2500 || e != api.OK {
		t.Errorf("2500 bytes for others: %d, %v", len(s), e)
	}
}

// P1.5: Moved.
func TestMoved(t *testing.T) {
	l := []api.Splice{splice(1, 2, "xy"), splice(3, 3, "z")}
	for _, x := range []struct {
		s      string
		l      []api.Splice
		at, to int
		e      api.Errno
	}{
		{"", nil, 0, 0, api.OK},
		{"abc", nil, 1, 1, api.OK},
		{"abc", nil, 3, 3, api.OK},
		{"abc", nil, 4, 0, api.ErrRange},
		{"abc", nil, -1, 0, api.ErrRange},
		{"abcd", l, 0, 0, api.OK},
		{"abcd", l, 1, 0, api.ErrNone},
		{"abcd", l, 2, 3, api.OK},
		{"abcd", l, 3, 5, api.OK},
		{"abcd", l, 4, 6, api.OK},
		{"abcd", l, 5, 0, api.ErrRange},
		{"abcd", l, math.MaxInt, 0, api.ErrRange},
		{"abcd", l, math.MinInt, 0, api.ErrRange},
		{"abc", []api.Splice{splice(0, 0, "12")}, 0, 2, api.OK},
		{"abc", []api.Splice{splice(3, 3, "12")}, 3, 5, api.OK},
		{"abc", []api.Splice{splice(3, 3, "12")}, 2, 2, api.OK},
		{"abc", []api.Splice{splice(0, 3, "12")}, 3, 2, api.OK},
		{"abc", []api.Splice{splice(0, 3, "12")}, 2, 0, api.ErrNone},
		{"abc", []api.Splice{splice(0, 3, "abc")}, 0, 0, api.ErrNone},
		{"abc", []api.Splice{splice(0, 2, ""), splice(2, 2, "1"), splice(2, 2, "23")}, 2, 3, api.OK},
	} {
		if n, e := lex.Moved(x.s, x.l, x.at); n != x.to || e != x.e {
			t.Errorf("%q with %v, %d: %d, %v", x.s, x.l, x.at, n, e)
		}
	}
}

// fromBehind returns the text after splices, and which byte of the text before each byte is (-1: it is put in).
func fromBehind(s string, l []api.Splice) (string, []int) {
	var from []int
	for i := range len(s) {
		from = append(from, i)
	}
	for _, x := range slices.Backward(l) {
		s = s[:x.From] + x.Text + s[x.To:]
		from = slices.Replace(from, x.From, x.To, slices.Repeat([]int{-1}, len(x.Text))...)
	}
	return s, from
}

// P1.5: the text after many splices, and where each byte of it comes from.
func TestSplicesFromBehind(t *testing.T) {
	r := source(5)
	for i := range 2000 {
		s := anyText(r, i%15)
		l := someSplices(r, s, 6)
		want, from := fromBehind(s, l)
		if after := apply(t, s, l); after != want {
			t.Fatalf("%q with %v: %q, not %q", s, l, after, want)
		}
		for n := range len(s) {
			to, e := lex.Moved(s, l, n)
			if k := slices.Index(from, n); k >= 0 && (to != k || e != api.OK) || k < 0 && (to != 0 || e != api.ErrNone) {
				t.Fatalf("Moved of %q with %v, %d: %d, %v", s, l, n, to, e)
			}
		}
		if to, e := lex.Moved(s, l, len(s)); to != len(want) || e != api.OK {
			t.Fatalf("Moved of %q with %v, at the end: %d, %v", s, l, to, e)
		}
	}
}

// P1.6 and P1.13: Undo leads back, splice by splice; bytes that stay are the same, and their places rise.
func TestUndone(t *testing.T) {
	r := source(6)
	for i := range 2000 {
		s := anyText(r, i%15)
		l := someSplices(r, s, 8)
		after := apply(t, s, l)
		undo, e := lex.Undo(s, l)
		if e != api.OK || len(undo) != len(l) {
			t.Fatalf("Undo of %q with %v: %v, %v", s, l, undo, e)
		}
		if back := apply(t, after, undo); back != s {
			t.Fatalf("%q with %v, and %v: %q", s, l, undo, back)
		}
		for n, x := range l {
			if undo[n].Text != s[x.From:x.To] || after[undo[n].From:undo[n].To] != x.Text {
				t.Fatalf("%q with %v: %v", s, l, undo)
			}
		}
		last := -1
		for n := range len(s) + 1 {
			to, e := lex.Moved(s, l, n)
			if e != api.OK {
				continue
			}
			if to <= last || n < len(s) && after[to] != s[n] {
				t.Fatalf("Moved of %q with %v, %d: %d", s, l, n, to)
			}
			last = to
		}
	}
}
