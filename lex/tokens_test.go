package lex_test

import (
	"regexp"
	"slices"
	"strconv"
	"strings"
	"testing"

	"riposte/api"
	"riposte/lex"
)

// P1.1: Tokens.
func TestTokensOfTexts(t *testing.T) {
	for _, x := range []struct {
		s    string
		want []api.Token
	}{
		{"", nil},
		{" \n \n", nil},
		{"~only this", nil},
		{"~a\n~\n ~", nil},
		{"x:=1 ~a", []api.Token{at(0, name("x")), at(1, sign(":=")), at(3, number("1"))}},
		{"a~b\nc", []api.Token{at(0, name("a")), at(4, name("c"))}},
		{"if iff fi", []api.Token{at(0, word("if")), at(3, name("iff")), at(7, name("fi"))}},
		{"if1 inT in", []api.Token{at(0, name("if1")), at(4, name("inT")), at(8, word("in"))}},
		{"not notice", []api.Token{at(0, word("not")), at(4, word("notice"))}},
		{"aB9c z", []api.Token{at(0, name("aB9c")), at(5, name("z"))}},
		{"0 10 1000000", []api.Token{at(0, number("0")), at(2, number("10")), at(5, number("1000000"))}},
		{"abcdefghijkl", []api.Token{at(0, name("abcdefghijkl"))}},
		{"-->:=:", []api.Token{at(0, sign("-")), at(1, sign("->")), at(3, sign(":=")), at(5, sign(":"))}},
		{"::==", []api.Token{at(0, sign(":")), at(1, sign(":=")), at(3, sign("="))}},
		{": =- -", []api.Token{at(0, sign(":")), at(2, sign("=")), at(3, sign("-")), at(5, sign("-"))}},
		{"1+2", []api.Token{at(0, number("1")), at(1, sign("+")), at(2, number("2"))}},
		{"f(1,x)", []api.Token{at(0, name("f")), at(1, sign("(")), at(2, number("1")), at(3, sign(",")), at(4, name("x")), at(5, sign(")"))}},
		{"x.y;!z", []api.Token{at(0, name("x")), at(1, sign(".")), at(2, name("y")), at(3, sign(";")), at(4, sign("!")), at(5, name("z"))}},
	} {
		l, n, e := lex.Tokens(x.s)
		if !slices.Equal(l, x.want) || n != 0 || e != api.OK {
			t.Errorf("%q: %v, %d, %v", x.s, l, n, e)
		}
	}
}

// P1.1: each keyword and each sign, alone.
func TestTokensListed(t *testing.T) {
	for _, s := range keywords {
		if l, _, e := lex.Tokens(s); e != api.OK || !slices.Equal(l, []api.Token{word(s)}) {
			t.Errorf("%q: %v, %v", s, l, e)
		}
		if l, _, e := lex.Tokens(s + "0"); e != api.OK || !slices.Equal(l, []api.Token{name(s + "0")}) {
			t.Errorf("%q and 0: %v, %v", s, l, e)
		}
	}
	for _, s := range signs {
		if l, _, e := lex.Tokens(s); e != api.OK || !slices.Equal(l, []api.Token{sign(s)}) {
			t.Errorf("%q: %v, %v", s, l, e)
		}
	}
	for _, s := range []string{"import1", "let", "var", "do1", "mod", "int2", "e", "export2"} {
		if l, _, e := lex.Tokens(s); e != api.OK || !slices.Equal(l, []api.Token{name(s)}) {
			t.Errorf("%q: %v, %v", s, l, e)
		}
	}
}

// P1.1: the errors of Tokens, and their places.
func TestTokensErrors(t *testing.T) {
	for _, x := range []struct {
		s  string
		at int
		e  api.Errno
	}{
		{"def Ab", 4, api.ErrForm},
		{"a 01", 2, api.ErrForm},
		{"1000001", 0, api.ErrRange},
		{"00", 0, api.ErrForm},
		{"0000000000000000000000", 0, api.ErrForm},
		{"09999999", 0, api.ErrForm},
		{"0x", 0, api.ErrForm},
		{"1a", 0, api.ErrForm},
		{"a 1A", 2, api.ErrForm},
		{"1000001a", 0, api.ErrForm},
		{"9999999999999999999999a", 0, api.ErrForm},
		{"x 99999999999999999999999", 2, api.ErrRange},
		{"9223372036854775808", 0, api.ErrRange},
		{"18446744073709551617", 0, api.ErrRange},
		{"abcdefghijklm", 0, api.ErrForm},
		{"x abcdefGHIJ123", 2, api.ErrForm},
		{"a > b", 2, api.ErrForm},
		{"- >", 2, api.ErrForm},
		{"x_y", 1, api.ErrForm},
		{"01 1000001", 0, api.ErrForm},
		{"1000001 01", 0, api.ErrRange},
		{"x\n~c\n A", 6, api.ErrForm},
		{"# \t", 2, api.ErrArg},
		{"01 \x00", 3, api.ErrArg},
		{"~\x7f", 1, api.ErrArg},
		{"ab\r\n", 2, api.ErrArg},
		{"a\x80\x81", 1, api.ErrArg},
		{"~é", 1, api.ErrArg},
		{long(2501), 0, api.ErrLimit},
		{long(2500) + "\t", 0, api.ErrLimit},
		{"\t" + long(2500), 0, api.ErrLimit},
		{"a 01" + long(2500), 0, api.ErrLimit},
		{strings.Repeat(";", 901), 900, api.ErrLimit},
		{strings.Repeat("; ", 900) + "~\nx", 1802, api.ErrLimit},
		{strings.Repeat("; ", 900) + "01", 1800, api.ErrForm},
		{strings.Repeat("; ", 900) + "1000001", 1800, api.ErrRange},
		{strings.Repeat("; ", 901) + "01", 1800, api.ErrLimit},
		{strings.Repeat("; ", 899) + "01 ; ;", 1798, api.ErrForm},
		{strings.Repeat(";", 901) + "\t", 901, api.ErrArg},
	} {
		l, n, e := lex.Tokens(x.s)
		if len(l) != 0 || n != x.at || e != x.e {
			t.Errorf("%.60q: %d tokens, %d, %v", x.s, len(l), n, e)
		}
	}
}

// P1.1: which bytes a text can have, and with which of them a token begins.
func TestTokensOfBytes(t *testing.T) {
	for b := range 256 {
		s := "  " + string([]byte{byte(b)})
		inText := b >= 32 && b <= 126 || b == 10
		begins := b == ' ' || b == '\n' || b == '~' || b >= 'a' && b <= 'z' || b >= '0' && b <= '9' || slices.Contains(signs, s[2:])
		_, n, e := lex.Tokens(s)
		switch {
		case !inText && (n != 2 || e != api.ErrArg), inText && !begins && (n != 2 || e != api.ErrForm), begins && e != api.OK:
			t.Errorf("Tokens with the byte %d: %d, %v", b, n, e)
		}
		if _, e := lex.Notes("~" + s); inText != (e == api.OK) || !inText && e != api.ErrArg {
			t.Errorf("Notes with the byte %d: %v", b, e)
		}
	}
}

// P1.1 and R7: limits are reached.
func TestTokensLimits(t *testing.T) {
	if l, _, e := lex.Tokens(strings.Repeat("; ", 900)); len(l) != 900 || e != api.OK || l[899].At != 1798 {
		t.Errorf("900 tokens: %d, %v", len(l), e)
	}
	if l, _, e := lex.Tokens(strings.Repeat(";", 900) + "~ ; ; ;"); len(l) != 900 || e != api.OK {
		t.Errorf("900 tokens and a comment: %d, %v", len(l), e)
	}
	if l, _, e := lex.Tokens(long(2499) + "x"); e != api.OK || !slices.Equal(l, []api.Token{at(2499, name("x"))}) {
		t.Errorf("2500 bytes: %v, %v", l, e)
	}
	if l, e := lex.Notes("~" + strings.Repeat("x", 2499)); e != api.OK || len(l) != 1 || len(l[0].Text) != 2499 {
		t.Errorf("a comment of 2500 bytes: %v, %v", l, e)
	}
	if l, e := lex.Notes(strings.Repeat("~\n", 1250)); e != api.OK || len(l) != 1250 {
		t.Errorf("1250 comments: %d, %v", len(l), e)
	}
}

// P1.1: Notes.
func TestNotes(t *testing.T) {
	for _, x := range []struct {
		s    string
		want []api.Token
		e    api.Errno
	}{
		{"", nil, api.OK},
		{"x", nil, api.OK},
		{"x ~a", []api.Token{at(2, note("a"))}, api.OK},
		{"~", []api.Token{note("")}, api.OK},
		{"~~ b\n#~", []api.Token{at(0, note("~ b")), at(6, note(""))}, api.OK},
		{"~a ~ b\n~c\n\n~ d ", []api.Token{at(0, note("a ~ b")), at(7, note("c")), at(11, note(" d "))}, api.OK},
		{"x~ y\nz", []api.Token{at(1, note(" y"))}, api.OK},
		{"01~a\n1000001 A_>~b", []api.Token{at(2, note("a")), at(16, note("b"))}, api.OK},
		{"abcdefghijklmnop~a", []api.Token{at(16, note("a"))}, api.OK},
		{strings.Repeat(";", 950) + "~a", []api.Token{at(950, note("a"))}, api.OK},
		{"~\t", nil, api.ErrArg},
		{"~a\n\x7f", nil, api.ErrArg},
		{long(2501), nil, api.ErrLimit},
		{long(2501) + "\t", nil, api.ErrLimit},
	} {
		if l, e := lex.Notes(x.s); !slices.Equal(l, x.want) || e != x.e {
			t.Errorf("%.60q: %v, %v", x.s, l, e)
		}
	}
}

// tokenForms are the rows of the chapter's table, and a comment, as regular expressions.
var tokenForms = regexp.MustCompile(`^(?:([a-z][a-zA-Z0-9]*)|([0-9][a-zA-Z0-9]*)|(:=|->|[=<+\-*!(){},;:.])|~([^\n]*))`)

var rightNumber = regexp.MustCompile(`^(0|[1-9][0-9]*)$`)

// byForms tells the tokens and the comments of a text by tokenForms.
func byForms(s string) (l, notes []api.Token, place int, e api.Errno) {
	fail := func(n int, f api.Errno) {
		if e == api.OK {
			l, place, e = nil, n, f
		}
	}
	for i := 0; i < len(s); {
		if s[i] == ' ' || s[i] == '\n' {
			i++
			continue
		}
		m := tokenForms.FindStringSubmatchIndex(s[i:])
		if m == nil {
			fail(i, api.ErrForm)
			i++
			continue
		}
		x := s[i : i+m[1]]
		switch {
		case m[2] >= 0 && slices.Contains(keywords, x):
			l = append(l, at(i, word(x)))
		case m[2] >= 0:
			l = append(l, at(i, name(x)))
			if len(x) > 12 {
				fail(i, api.ErrForm)
			}
		case m[4] >= 0:
			l = append(l, at(i, number(x)))
			if n, err := strconv.Atoi(x); !rightNumber.MatchString(x) {
				fail(i, api.ErrForm)
			} else if err != nil || n > 1000000 {
				fail(i, api.ErrRange)
			}
		case m[6] >= 0:
			l = append(l, at(i, sign(x)))
		default:
			notes = append(notes, at(i, note(x[1:])))
		}
		i += m[1]
	}
	if e != api.OK {
		l = nil
	}
	return l, notes, place, e
}

// P1.1: Tokens and Notes of many texts.
func TestTokensByForms(t *testing.T) {
	r := source(1)
	right := 0
	for i := range 4000 {
		s := anyText(r, 1+i%30)
		l, notes, place, e := byForms(s)
		if e == api.OK {
			right++
		}
		if got, n, f := lex.Tokens(s); !slices.Equal(got, l) || n != place || f != e {
			t.Fatalf("Tokens of %q: %v, %d, %v; not %v, %d, %v", s, got, n, f, l, place, e)
		}
		if got, f := lex.Notes(s); !slices.Equal(got, notes) || f != api.OK {
			t.Fatalf("Notes of %q: %v, %v; not %v", s, got, f, notes)
		}
	}
	if right < 400 {
		t.Errorf("only %d of the texts had tokens", right)
	}
}
