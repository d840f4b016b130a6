package play_test

import (
	"math"
	"slices"
	"strings"
	"testing"

	"riposte/api"
	"riposte/arena"
	"riposte/play"
)

// P5.9: texts, and what they are of.
func TestText(t *testing.T) {
	for _, x := range []struct {
		s string
		w api.Word
	}{
		{"", nil},
		{"0?", api.Word{{Kind: api.MoveAsk}}},
		{"0? 1? 1.1=3 1.1!* 12!40", api.Word{{Kind: api.MoveAsk}, {Id: 1, Kind: api.MoveAsk}, {Id: 1, Arg: 1, Kind: api.MovePut, N: 3}, {Id: 1, Arg: 1, Kind: api.MoveTell, N: api.Esc}, {Id: 12, Kind: api.MoveTell, N: 40}}},
		{"9223372036854775807? 0.9223372036854775807!9223372036854775807", api.Word{{Id: math.MaxInt, Kind: api.MoveAsk}, {Arg: math.MaxInt, Kind: api.MoveTell, N: math.MaxInt}}},
	} {
		if s, e := play.Text(x.w); e != api.OK || s != x.s {
			t.Errorf("Text of %v: %q, %v", x.w, s, e)
		}
		if w, e := play.Parse(x.s); e != api.OK || !slices.Equal(w, x.w) {
			t.Errorf("Parse of %q: %v, %v", x.s, w, e)
		}
	}
	if s, e := play.Text(api.Word{}); e != api.OK || s != "" {
		t.Errorf("Text of an empty word: %q, %v", s, e)
	}
}

// P5.9: moves that have no text, wherever they stand.
func TestNoText(t *testing.T) {
	ask := api.Move{Kind: api.MoveAsk}
	for _, m := range []api.Move{{}, {Kind: 4}, {Id: -1, Kind: api.MoveAsk}, {Arg: -1, Kind: api.MoveAsk}, {Kind: api.MoveAsk, N: 1}, {Kind: api.MovePut, N: api.Esc}, {Kind: api.MoveTell, N: -2}} {
		for _, w := range []api.Word{{m}, {m, ask}, {ask, m}, {ask, m, ask}} {
			if s, e := play.Text(w); e != api.ErrForm || s != "" {
				t.Errorf("Text of %v: %q, %v", w, s, e)
			}
		}
	}
}

// P5.9: texts of no words.
func TestNoWord(t *testing.T) {
	for _, s := range []string{" ", "  ", "0? ", " 0?", "0?  1?", "x", "0?,1?", "0?1?", "0?\t1?", "0?\n1?", "0?\n", "01?", "0? 1", "+1?", "-1?", "1!-1", "1!-0", "1.0?", "?", "0? !*", "0?\x00", "0?\u00a01?", "0? 9223372036854775808?"} {
		if w, e := play.Parse(s); e != api.ErrForm || len(w) > 0 {
			t.Errorf("Parse of %q: %v, %v", s, w, e)
		}
	}
}

// P5.9 and R7: words of MaxWord moves, and longer ones; ErrLimit comes before ErrForm.
func TestLongTexts(t *testing.T) {
	ask := api.Move{Kind: api.MoveAsk}
	for _, x := range []struct {
		many int
		e    api.Errno
	}{{399, api.OK}, {400, api.OK}, {401, api.ErrLimit}, {5000, api.ErrLimit}} {
		w := slices.Repeat(api.Word{ask}, x.many)
		s := strings.Repeat(" 0?", x.many)[1:]
		if got, e := play.Text(w); e != x.e || e == api.OK && got != s {
			t.Errorf("Text of %d moves: %v", x.many, e)
		}
		if got, e := play.Parse(s); e != x.e || e == api.OK && !slices.Equal(got, w) {
			t.Errorf("Parse of %d moves: %v", x.many, e)
		}
	}
	for s, want := range map[string]api.Errno{strings.Repeat(" ", 399): api.ErrForm, strings.Repeat(" ", 400): api.ErrLimit, strings.Repeat("x ", 400): api.ErrLimit, strings.Repeat("x ", 399): api.ErrForm, strings.Repeat("0?\n", 500): api.ErrForm} {
		if w, e := play.Parse(s); e != want || len(w) > 0 {
			t.Errorf("Parse of %d bytes: %v, not %v", len(s), e, want)
		}
	}
	if s, e := play.Text(make(api.Word, 400)); e != api.ErrForm || s != "" {
		t.Errorf("Text of 400 moves without a text: %v", e)
	}
	if s, e := play.Text(make(api.Word, 401)); e != api.ErrLimit || s != "" {
		t.Errorf("Text of 401 moves without a text: %v", e)
	}
}

// P5.16: there and back, for legal words, and for any moves that have texts; and a text is that of its word.
func TestThereAndBack(t *testing.T) {
	for _, x := range sayings(t, 7, 20, 60) {
		s, e := play.Text(x.w)
		if w, f := play.Parse(s); e != api.OK || f != api.OK || !slices.Equal(w, x.w) {
			t.Fatalf("%v: %v; %q: %v, %v", x.w, e, s, w, f)
		}
		var l []string
		for _, m := range x.w {
			y, _ := arena.Text(m)
			l = append(l, y)
		}
		if strings.Join(l, " ") != s {
			t.Fatalf("Text of %v: %q", x.w, s)
		}
	}
	r := source(8)
	for range 20000 {
		s := bent(r, pick(r, said, "", "0?", "1.1!* 1!* 0!*", "2=1 2!0"), "0123456789 .?!=* -+\x00\n")
		w, e := play.Parse(s)
		if e == api.OK && text(t, w) != s || e != api.OK && (e != api.ErrForm || len(w) > 0) {
			t.Fatalf("Parse of %q: %v, %v", s, w, e)
		}
	}
	var l api.Word
	for len(l) < 300 {
		if m := anyMove(r); m.Id >= 0 {
			if _, e := arena.Text(m); e == api.OK {
				l = append(l, m)
			}
		}
	}
	if w, e := play.Parse(text(t, l)); e != api.OK || !slices.Equal(w, l) {
		t.Errorf("any moves: %v, %v", w, e)
	}
}
