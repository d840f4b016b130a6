package lex_test

import (
	"slices"
	"strings"
	"testing"

	"riposte/api"
	"riposte/lex"
)

// wrongTokens are tokens that are not right.
var wrongTokens = []api.Token{
	{}, name(""), name("in"), name("true"), name("abcdefghijklm"), name("x "), name(" x"), name("x y"), name("X"), name("1"), name("+"), name("x~"), name("x\n"), name("x\x80"), name("x_"), name("\t"),
	number(""), number("01"), number("00"), number("1000001"), number("99999999999999999999"), number("-1"), number("+1"), number("1a"), number("x"), number("1 "), number(" 1"), number("1.0"),
	word(""), word("x"), word("iff"), word("If"), word("1"), word("in "), word("in int"),
	sign(""), sign(">"), sign("=+"), sign("=="), sign("::="), sign(": ="), sign("- >"), sign("x"), sign("~"), sign("()"), sign("#"), sign(" "), sign("\n"), sign("+ "),
	note(""), note("x"), note("~"), note("~x"), note("+"), note("1"),
	{Kind: 6, Text: "x"}, {Kind: 0, Text: "x"}, {Kind: 255, Text: "+"}, {Kind: 0, Text: "#"}, {Kind: 0, Text: " "},
}

// P1.3: Tight.
func TestTight(t *testing.T) {
	for _, x := range []struct {
		l    []api.Token
		want string
	}{
		{nil, ""},
		{[]api.Token{}, ""},
		{[]api.Token{name("x")}, "x"},
		{[]api.Token{name("x"), sign(":"), sign("="), word("in"), sign("(")}, "x: =in("},
		{[]api.Token{name("x"), sign(":="), number("1")}, "x:=1"},
		{[]api.Token{number("1"), number("2"), name("a"), word("if"), word("in"), name("b"), number("0")}, "1 2 a if in b 0"},
		{[]api.Token{sign("-"), sign("->"), sign(":"), sign(":="), sign("=")}, "-->::=="},
		{[]api.Token{sign(":"), sign(":"), sign("="), sign("=")}, ":: =="},
		{[]api.Token{sign(":="), sign("="), sign("="), sign(":"), sign("-"), sign("-")}, ":===:--"},
		{[]api.Token{sign(":"), name("x"), sign("="), name("y")}, ":x=y"},
		{[]api.Token{at(-5, name("x")), at(99, sign("+")), at(0, number("1000000"))}, "x+1000000"},
		{[]api.Token{name("abcdefghijkl"), word("while")}, "abcdefghijkl while"},
	} {
		if s, e := lex.Tight(x.l); s != x.want || e != api.OK {
			t.Errorf("%v: %q, %v", x.l, s, e)
		}
	}
}

// P1.3: the errors of Tight, and its limits.
func TestTightErrors(t *testing.T) {
	for _, x := range wrongTokens {
		if s, e := lex.Tight([]api.Token{name("a"), x}); s != "" || e != api.ErrArg {
			t.Errorf("%v: %q, %v", x, s, e)
		}
	}
	// A name and the signs behind it have 14 bytes: 2324 in all, and 176 more.
	full := slices.Repeat([]api.Token{name("abcdefghijkl"), sign(":"), sign("+")}, 166)
	full = append(full, slices.Repeat([]api.Token{sign(";")}, 176)...)
	if s, e := lex.Tight(full); len(s) != 2500 || e != api.OK {
		t.Errorf("2500 bytes: %d, %v", len(s), e)
	}
	over := append(slices.Clone(full), sign(";"))
	if s, e := lex.Tight(over); s != "" || e != api.ErrLimit {
		t.Errorf("2501 bytes: %d, %v", len(s), e)
	}
	if s, e := lex.Tight(append(over, sign(">"))); s != "" || e != api.ErrArg {
		t.Errorf("too long, with a wrong token: %d, %v", len(s), e)
	}
	if s, e := lex.Tight(slices.Repeat([]api.Token{name("x")}, 900)); len(s) != 1799 || e != api.OK {
		t.Errorf("900 tokens: %d, %v", len(s), e)
	}
	if s, e := lex.Tight(slices.Repeat([]api.Token{sign(";")}, 901)); s != "" || e != api.ErrLimit {
		t.Errorf("901 tokens: %d, %v", len(s), e)
	}
	if s, e := lex.Tight(slices.Repeat([]api.Token{sign(">")}, 901)); s != "" || e != api.ErrLimit {
		t.Errorf("901 wrong tokens: %d, %v", len(s), e)
	}
}

// brackets returns signs.
func brackets(s string) []api.Token {
	var l []api.Token
	for i := range len(s) {
		l = append(l, sign(s[i:i+1]))
	}
	return l
}

// P1.4: Pairs.
func TestPairs(t *testing.T) {
	for _, x := range []struct {
		l    []api.Token
		want []int
		n    int
		e    api.Errno
	}{
		{nil, nil, 0, api.OK},
		{[]api.Token{name("x"), number("1"), word("if"), sign(";")}, []int{-1, -1, -1, -1}, 0, api.OK},
		{brackets("()"), []int{1, 0}, 0, api.OK},
		{brackets("{}()"), []int{1, 0, 3, 2}, 0, api.OK},
		{brackets("({()}+)"), []int{6, 4, 3, 2, 1, -1, 0}, 0, api.OK},
		{[]api.Token{name("f"), sign("("), sign("{"), sign("}"), sign(")")}, []int{-1, 4, 3, 2, 1}, 0, api.OK},
		{[]api.Token{name("f"), sign("("), name("x"), sign(")"), sign("{")}, nil, 4, api.ErrForm},
		{brackets("(}"), nil, 1, api.ErrForm},
		{brackets("{)"), nil, 1, api.ErrForm},
		{brackets(")"), nil, 0, api.ErrForm},
		{brackets("}"), nil, 0, api.ErrForm},
		{brackets("+())"), nil, 3, api.ErrForm},
		{brackets("({)}"), nil, 2, api.ErrForm},
		{brackets("((}"), nil, 2, api.ErrForm},
		{brackets("(()})"), nil, 3, api.ErrForm},
		{brackets("({("), nil, 0, api.ErrForm},
		{brackets("()(()"), nil, 2, api.ErrForm},
		{brackets("(()"), nil, 0, api.ErrForm},
		{brackets("({})+{()"), nil, 5, api.ErrForm},
		{brackets("(>"), nil, 0, api.ErrArg},
		{append(brackets(";;)"), name("if")), nil, 0, api.ErrArg},
		{slices.Repeat(brackets(")"), 901), nil, 0, api.ErrLimit},
		{slices.Repeat(brackets(">"), 901), nil, 0, api.ErrLimit},
	} {
		l, n, e := lex.Pairs(x.l)
		if !slices.Equal(l, x.want) || n != x.n || e != x.e {
			t.Errorf("%v: %v, %d, %v", x.l, l, n, e)
		}
	}
	for _, x := range wrongTokens {
		if l, n, e := lex.Pairs([]api.Token{name("a"), sign(")"), x}); len(l) != 0 || n != 0 || e != api.ErrArg {
			t.Errorf("%v: %v, %d, %v", x, l, n, e)
		}
	}
	deep := append(slices.Repeat(brackets("("), 450), slices.Repeat(brackets(")"), 450)...)
	if l, _, e := lex.Pairs(deep); e != api.OK || len(l) != 900 || l[0] != 899 || l[450] != 449 {
		t.Errorf("900 brackets: %v", e)
	}
}

// P1.4: brackets belong together just if those between them do; the places of tokens do not matter.
func TestPairsBelong(t *testing.T) {
	r := source(3)
	for i := range 3000 {
		var b strings.Builder
		for range i % 12 {
			b.WriteString(pick(r, []string{"(", ")", "{", "}", ";"}))
		}
		l := brackets(b.String())
		pairs, _, e := lex.Pairs(l)
		if rest := reduced(b.String()); (rest == "") != (e == api.OK) {
			t.Fatalf("%q: %v, %v", b.String(), pairs, e)
		}
		for n, m := range pairs {
			if m < 0 && l[n].Text == ";" {
				continue
			}
			if m < 0 || pairs[m] != n || reduced(b.String()[min(n, m)+1:max(n, m)]) != "" {
				t.Fatalf("%q: %v", b.String(), pairs)
			}
		}
	}
}

// reduced leaves out what is closed, until nothing is.
func reduced(s string) string {
	out := strings.NewReplacer(";", "", "()", "", "{}", "").Replace(s)
	if out == s {
		return s
	}
	return reduced(out)
}

// P1.10: Tokens of what Tight returns are these tokens, at rising places; with any blank left out they are not.
func TestTightAndBack(t *testing.T) {
	r := source(4)
	blanks := 0
	for i := range 1500 {
		s := rightText(r, i%40)
		l := tokens(t, s)
		tight, e := lex.Tight(l)
		if e != api.OK || len(tight) > len(s) {
			t.Fatalf("%q: %q, %v", s, tight, e)
		}
		back := tokens(t, tight)
		if !slices.Equal(bare(back), bare(l)) {
			t.Fatalf("%q: %q has the tokens %v", s, tight, back)
		}
		for n := 1; n < len(back); n++ {
			if back[n-1].At+len(back[n-1].Text) > back[n].At {
				t.Fatalf("%q: places of %v", tight, back)
			}
		}
		for n := range len(tight) {
			if tight[n] != ' ' {
				continue
			}
			blanks++
			if got, _, _ := lex.Tokens(tight[:n] + tight[n+1:]); slices.Equal(bare(got), bare(l)) {
				t.Fatalf("%q: the blank at %d is not needed", tight, n)
			}
		}
	}
	if blanks < 1000 {
		t.Errorf("only %d blanks", blanks)
	}
}
