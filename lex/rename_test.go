package lex_test

import (
	"slices"
	"strings"
	"testing"

	"riposte/api"
	"riposte/lex"
)

// P1.9: Rename.
func TestRename(t *testing.T) {
	for _, x := range []struct{ s, old, name, want string }{
		{"x", "x", "y", "y"},
		{"x + xs", "x", "y", "y + xs"},
		{"x + xs ~x\nx", "x", "y", "y + xs ~x\ny"},
		{"x ~ y", "x", "y", "y ~ y"},
		{"x.x,x;x", "x", "abcdefghijkl", "abcdefghijkl.abcdefghijkl,abcdefghijkl;abcdefghijkl"},
		{"abcdefghijkl  a ", "abcdefghijkl", "b", "b  a "},
		{"in i\ni", "i", "inn", "in inn\ninn"},
		{"xX x1 x", "x", "x2", "xX x1 x2"},
		{"1 + a1", "a1", "a", "1 + a"},
	} {
		if s, e := lex.Rename(x.s, x.old, x.name); s != x.want || e != api.OK {
			t.Errorf("%q, %q to %q: %q, %v", x.s, x.old, x.name, s, e)
		}
	}
}

// P1.9: the errors of Rename.
func TestRenameErrors(t *testing.T) {
	for _, x := range []struct {
		s, old, name string
		e            api.Errno
	}{
		{"x + xs", "x", "xs", api.ErrTwice},
		{"x", "x", "x", api.ErrTwice},
		{"x x", "x", "x", api.ErrTwice},
		{"x", "x", "if", api.ErrArg},
		{"if x", "if", "y", api.ErrArg},
		{"x", "x", "Y", api.ErrArg},
		{"x", "X", "y", api.ErrArg},
		{"x 1", "1", "y", api.ErrArg},
		{"x", "x", "1", api.ErrArg},
		{"x + y", "+", "z", api.ErrArg},
		{"x", "x", "+", api.ErrArg},
		{"x", "", "y", api.ErrArg},
		{"x", "x", "", api.ErrArg},
		{"x", "x", "y z", api.ErrArg},
		{"x", "x", "y ", api.ErrArg},
		{"x", "x", " y", api.ErrArg},
		{"x", "x", "y~", api.ErrArg},
		{"x y", "x y", "z", api.ErrArg},
		{"x", "x", "~y", api.ErrArg},
		{"x", "x", "y\t", api.ErrArg},
		{"x", "x", "abcdefghijklm", api.ErrArg},
		{"x", "abcdefghijklm", "y", api.ErrArg},
		{"x", "y", "z", api.ErrNone},
		{"", "y", "z", api.ErrNone},
		{"~x", "x", "z", api.ErrNone},
		{"y", "x", "y", api.ErrNone},
		{"xs", "x", "y", api.ErrNone},
		{"y", "x", "x", api.ErrNone},
		{"y", "x", "if", api.ErrArg},
		{"x 01", "x", "if", api.ErrForm},
		{"x 1000001", "x", "if", api.ErrRange},
		{strings.Repeat(";", 901), "x", "if", api.ErrLimit},
		{"x\t", "x", "if", api.ErrArg},
		{"01\t", "x", "if", api.ErrArg},
		{long(2501), "x", "if", api.ErrLimit},
		{strings.Repeat("x ", 250), "x", "abcdefghijkl", api.ErrLimit},
		{strings.Repeat("x ", 250) + "abcdefghijkl", "x", "abcdefghijkl", api.ErrTwice},
		{strings.Repeat("x ", 250), "y", "abcdefghijkl", api.ErrNone},
	} {
		if s, e := lex.Rename(x.s, x.old, x.name); s != "" || e != x.e {
			t.Errorf("%.20q, %q to %q: %.20q, %v", x.s, x.old, x.name, s, e)
		}
	}
}

// P1.9 and R7: as many names and bytes as there may be.
func TestRenameLimits(t *testing.T) {
	many := strings.Repeat("x ", 192)
	want := strings.Repeat("abcdefghijkl ", 192)
	if s, e := lex.Rename(many+"   1", "x", "abcdefghijkl"); s != want+"   1" || e != api.OK {
		t.Errorf("2500 bytes: %d, %v", len(s), e)
	}
	if s, e := lex.Rename(many+"    1", "x", "abcdefghijkl"); s != "" || e != api.ErrLimit {
		t.Errorf("2501 bytes: %d, %v", len(s), e)
	}
	if s, e := lex.Rename(strings.Repeat("x ", 900), "x", "yy"); s != "" || e != api.ErrLimit {
		t.Errorf("2700 bytes: %d, %v", len(s), e)
	}
	if s, e := lex.Rename(strings.Repeat("x ", 900), "x", "y"); s != strings.Repeat("y ", 900) || e != api.OK {
		t.Errorf("900 names: %d, %v", len(s), e)
	}
	if s, e := lex.Rename(long(2499)+"x", "x", "y"); s != long(2499)+"y" || e != api.OK {
		t.Errorf("a name at the end of 2500 bytes: %v", e)
	}
}

// P1.15: a text that is renamed, and renamed back, is the text before; only names differ.
func TestRenamedBack(t *testing.T) {
	r := source(8)
	renamed := 0
	for i := range 2000 {
		s := rightText(r, 20+i%60)
		old := pick(r, []string{"x", "y", "xs", "aB9"})
		other := pick(r, []string{"z", "ifs", "abcdefghijkl", "a0"})
		l := tokens(t, s)
		there := slices.Contains(bare(l), name(old))
		s2, e := lex.Rename(s, old, other)
		if !there && (s2 != "" || e != api.ErrNone) || there && e != api.OK {
			t.Fatalf("%q, %s to %s: %q, %v", s, old, other, s2, e)
		}
		if !there {
			continue
		}
		renamed++
		if back, e := lex.Rename(s2, other, old); back != s || e != api.OK {
			t.Fatalf("%q, %s to %s, and back: %q, %v", s, old, other, back, e)
		}
		want := bare(l)
		for n := range want {
			if want[n] == name(old) {
				want[n] = name(other)
			}
		}
		if got := bare(tokens(t, s2)); !slices.Equal(got, want) {
			t.Fatalf("%q, %s to %s: %v", s, old, other, got)
		}
		before, _ := lex.Notes(s)
		after, _ := lex.Notes(s2)
		if !slices.Equal(bare(before), bare(after)) {
			t.Fatalf("%q, %s to %s: the comments %v", s, old, other, after)
		}
	}
	if renamed < 500 {
		t.Errorf("only %d texts renamed", renamed)
	}
}
