package lex_test

import (
	"slices"
	"strings"
	"testing"

	"riposte/api"
	"riposte/lex"
)

// P1.7: Diff.
func TestDiff(t *testing.T) {
	for _, x := range []struct {
		a, b string
		want []api.Splice
		e    api.Errno
	}{
		{"", "", nil, api.OK},
		{"x", "x", nil, api.OK},
		{"aab", "ab", []api.Splice{splice(1, 2, "")}, api.OK},
		{"ab", "aab", []api.Splice{splice(1, 1, "a")}, api.OK},
		{"", "x", []api.Splice{splice(0, 0, "x")}, api.OK},
		{"x", "", []api.Splice{splice(0, 1, "")}, api.OK},
		{"abc", "axc", []api.Splice{splice(1, 2, "x")}, api.OK},
		{"abc", "abcd", []api.Splice{splice(3, 3, "d")}, api.OK},
		{"abc", "zabc", []api.Splice{splice(0, 0, "z")}, api.OK},
		{"aaa", "aa", []api.Splice{splice(2, 3, "")}, api.OK},
		{"aa", "aaaa", []api.Splice{splice(2, 2, "aa")}, api.OK},
		{"abab", "ab", []api.Splice{splice(2, 4, "")}, api.OK},
		{"abcd", "wxyz", []api.Splice{splice(0, 4, "wxyz")}, api.OK},
		{"# 01\n", "# 1\n", []api.Splice{splice(2, 3, "")}, api.OK},
		{long(2500), long(2499) + "x", []api.Splice{splice(2499, 2500, "x")}, api.OK},
		{"", long(2500), []api.Splice{splice(0, 0, long(2500))}, api.OK},
		{"\t", "a", nil, api.ErrArg},
		{"a", "\t", nil, api.ErrArg},
		{"\t", "\t", nil, api.ErrArg},
		{"\t", long(2501), nil, api.ErrArg},
		{long(2501), "\t", nil, api.ErrLimit},
		{long(2501), long(2501), nil, api.ErrLimit},
		{"", long(2501), nil, api.ErrLimit},
		{long(2501), "", nil, api.ErrLimit},
	} {
		if l, e := lex.Diff(x.a, x.b); !slices.Equal(l, x.want) || e != x.e {
			t.Errorf("%.20q, %.20q: %v, %v", x.a, x.b, l, e)
		}
	}
}

// short returns all texts of at most n bytes of a and b.
func short(n int) []string {
	l := []string{""}
	for from := 0; n > 0; n-- {
		end := len(l)
		for _, s := range l[from:end] {
			l = append(l, s+"a", s+"b")
		}
		from = end
	}
	return l
}

// allWays returns the splice with the greatest From, then the smallest To, of all that lead from a text to another one.
func allWays(a, b string) api.Splice {
	for from := len(a); from >= 0; from-- {
		for to := from; to <= len(a); to++ {
			end := len(b) - (len(a) - to)
			if end >= from && a[:from] == b[:from] && a[to:] == b[end:] {
				return splice(from, to, b[from:end])
			}
		}
	}
	return splice(0, len(a), b)
}

// P1.7 and P1.14: Diff of all short texts.
func TestDiffOfShortTexts(t *testing.T) {
	l := short(6)
	for _, a := range l {
		for _, b := range l {
			d, e := lex.Diff(a, b)
			if a == b && len(d) == 0 && e == api.OK {
				continue
			}
			if e != api.OK || len(d) != 1 || d[0] != allWays(a, b) {
				t.Fatalf("Diff of %q, %q: %v, %v", a, b, d, e)
			}
			if after := apply(t, a, d); after != b {
				t.Fatalf("%q with %v: %q, not %q", a, d, after, b)
			}
			undo, _ := lex.Undo(a, d)
			if back, e := lex.Diff(b, a); !slices.Equal(back, undo) || e != api.OK {
				t.Fatalf("Diff of %q, %q: %v, not %v", b, a, back, undo)
			}
		}
	}
}

// P1.8: Kept.
func TestKept(t *testing.T) {
	for _, x := range []struct {
		s          string
		x          api.Splice
		head, tail int
		e          api.Errno
	}{
		{"", splice(0, 0, ""), 0, 0, api.OK},
		{"", splice(0, 0, "a"), 0, 0, api.OK},
		{"a b c", splice(2, 3, "d e"), 1, 1, api.OK},
		{"a b c", splice(5, 5, ""), 3, 0, api.OK},
		{"a b c", splice(0, 5, "a b c"), 3, 0, api.OK},
		{"a b c", splice(0, 5, ""), 0, 0, api.OK},
		{"a b c", splice(1, 2, ""), 0, 1, api.OK},
		{"a b c", splice(0, 0, " "), 0, 3, api.OK},
		{"a b c", splice(1, 1, " "), 1, 2, api.OK},
		{"a b c", splice(1, 2, "+"), 1, 2, api.OK},
		{"a b c", splice(2, 3, "if"), 1, 1, api.OK},
		{"a b c", splice(1, 4, "~"), 1, 0, api.OK},
		{"a b\nc", splice(1, 1, "~"), 1, 1, api.OK},
		{"a b\nc", splice(0, 0, "~"), 0, 1, api.OK},
		{"~a b\nc", splice(0, 1, ""), 0, 1, api.OK},
		{"a a a", splice(0, 2, ""), 2, 0, api.OK},
		{"a a", splice(0, 0, "a "), 2, 0, api.OK},
		{"a a a", splice(2, 2, "a a "), 3, 0, api.OK},
		{"x:y", splice(2, 2, "="), 1, 1, api.OK},
		{"x:=y", splice(2, 2, " "), 1, 1, api.OK},
		{"a i", splice(3, 3, "f"), 1, 0, api.OK},
		{"1 #", splice(2, 3, ""), 0, 0, api.ErrForm},
		{"a # c", splice(0, 1, ""), 0, 0, api.ErrForm},
		{"1000001", splice(0, 1, ""), 0, 0, api.ErrRange},
		{strings.Repeat(";", 901), splice(0, 1, ""), 0, 0, api.ErrLimit},
		{"a b", splice(0, 1, "01"), 0, 0, api.ErrForm},
		{"a 2", splice(3, 3, "000000"), 0, 0, api.ErrRange},
		{strings.Repeat(";", 900), splice(0, 0, ";"), 0, 0, api.ErrLimit},
		{"01", splice(0, 2, "1000001"), 0, 0, api.ErrForm},
		{"1000001", splice(0, 7, "01"), 0, 0, api.ErrRange},
		{"01", splice(0, 3, ""), 0, 0, api.ErrRange},
		{"01", splice(0, 2, "\t"), 0, 0, api.ErrArg},
		{"a", splice(0, 2, ""), 0, 0, api.ErrRange},
	} {
		if h, n, e := lex.Kept(x.s, x.x); h != x.head || n != x.tail || e != x.e {
			t.Errorf("%.20q with %v: %d, %d, %v", x.s, x.x, h, n, e)
		}
	}
	if h, n, e := lex.Kept(strings.Repeat(";", 900), splice(450, 451, "+")); h != 450 || n != 449 || e != api.OK {
		t.Errorf("900 tokens: %d, %d, %v", h, n, e)
	}
}

// keptByTokens returns what Kept should, of texts that have tokens.
func keptByTokens(before, after []api.Token, longer int) (int, int) {
	head := 0
	for head < len(before) && head < len(after) && before[head] == after[head] {
		head++
	}
	before, after = before[head:], after[head:]
	tail := 0
	for tail < len(before) && tail < len(after) {
		x, y := before[len(before)-1-tail], after[len(after)-1-tail]
		if at(x.At+longer, x) != y {
			break
		}
		tail++
	}
	return head, tail
}

// farAway counts the tokens that end before the byte in front of a splice, and those that begin behind the first line feed at its end or behind it.
func farAway(s string, l []api.Token, x api.Splice) (before, behind int) {
	feed := strings.IndexByte(s[x.To:], '\n')
	for _, k := range l {
		if k.At+len(k.Text) <= x.From-1 {
			before++
		}
		if feed >= 0 && k.At > x.To+feed {
			behind++
		}
	}
	return before, behind
}

// P1.8 and P1.12: what Kept counts, and that it has all that is far away.
func TestKeptFarAway(t *testing.T) {
	r := source(7)
	several := 0
	for i := range 6000 {
		s := rightText(r, i%25)
		l := someSplices(r, s, 1)
		if len(l) == 0 {
			continue
		}
		after := apply(t, s, l)
		h, n, e := lex.Kept(s, l[0])
		now, _, f := lex.Tokens(after)
		if e != f {
			t.Fatalf("%q with %v: %v, not %v", s, l, e, f)
		}
		if e != api.OK {
			continue
		}
		old := tokens(t, s)
		longer := len(after) - len(s)
		if head, tail := keptByTokens(old, now, longer); h != head || n != tail {
			t.Fatalf("%q with %v: %d, %d, not %d, %d", s, l, h, n, head, tail)
		}
		before, behind := farAway(s, old, l[0])
		if before > h || before+behind > h+n {
			t.Fatalf("%q with %v: %d, %d are far away, %d, %d kept", s, l, before, behind, h, n)
		}
		if !slices.Equal(old[:before], now[:before]) {
			t.Fatalf("%q with %v: %v in front", s, l, now[:before])
		}
		for k := range behind {
			x, y := old[len(old)-1-k], now[len(now)-1-k]
			if at(x.At+longer, x) != y {
				t.Fatalf("%q with %v: %v behind", s, l, y)
			}
		}
		if before > 0 && behind > 0 {
			several++
		}
	}
	if several < 100 {
		t.Errorf("only %d splices have tokens far away on both sides", several)
	}
}
