package arena_test

import (
	"math"
	"math/rand"
	"regexp"
	"strconv"
	"strings"
	"testing"

	"riposte/api"
	"riposte/arena"
)

// The texts of moves and of arenas that are right, as patterns.
const (
	numberForm = `(0|[1-9][0-9]*)`
	sizeForm   = `([1-9]|[1-5][0-9]|6[0-4])`
	baseForm   = `(int|cell) ` + sizeForm
	typeForm   = `(` + baseForm + `|\(` + baseForm + `(, ` + baseForm + `){0,4}\) -> int ` + sizeForm + `)`
)

var (
	moveForm  = regexp.MustCompile(`^` + numberForm + `(\.[1-9][0-9]*)?(\?|=` + numberForm + `|!(\*|` + numberForm + `))$`)
	arenaForm = regexp.MustCompile(`^` + baseForm + `(; ` + typeForm + `){0,8}(; jumps)?$`)
	digits    = regexp.MustCompile(`[0-9]+`)
)

// isMoveText tells whether a text is that of a move: its numbers fit.
func isMoveText(s string) bool {
	for _, n := range digits.FindAllString(s, -1) {
		if _, err := strconv.Atoi(n); err != nil {
			return false
		}
	}
	return moveForm.MatchString(s)
}

// P4.8: moves and their texts.
func TestTexts(t *testing.T) {
	for s, m := range map[string]api.Move{
		"0?": {Kind: api.MoveAsk}, "0!2": {Kind: api.MoveTell, N: 2}, "1?": {Id: 1, Kind: api.MoveAsk}, "1.2?": {Id: 1, Arg: 2, Kind: api.MoveAsk}, "1.2=3": {Id: 1, Arg: 2, Kind: api.MovePut, N: 3},
		"12.3=40": {Id: 12, Arg: 3, Kind: api.MovePut, N: 40}, "0=0": {Kind: api.MovePut}, "0!0": {Kind: api.MoveTell}, "1!*": {Id: 1, Kind: api.MoveTell, N: api.Esc}, "0.1!*": {Arg: 1, Kind: api.MoveTell, N: api.Esc}, "10.10!10": {Id: 10, Arg: 10, Kind: api.MoveTell, N: 10},
		"9223372036854775807.9223372036854775807=9223372036854775807": {Id: math.MaxInt, Arg: math.MaxInt, Kind: api.MovePut, N: math.MaxInt},
	} {
		if n, e := arena.Parse(s); e != api.OK || n != m {
			t.Errorf("Parse of %q: %v, %v", s, n, e)
		}
		if u, e := arena.Text(m); e != api.OK || u != s {
			t.Errorf("Text of %v: %q, %v", m, u, e)
		}
	}
}

// P4.8: moves without a text.
func TestNoTexts(t *testing.T) {
	for _, m := range []api.Move{
		{}, {N: 1}, {Kind: 4}, {Kind: 255, N: 2}, {Id: -1, Kind: api.MoveAsk}, {Id: math.MinInt, Kind: api.MoveTell}, {Arg: -1, Kind: api.MovePut}, {Id: 3, Arg: math.MinInt, Kind: api.MoveTell, N: api.Esc},
		{Kind: api.MoveAsk, N: 1}, {Kind: api.MoveAsk, N: -1}, {Kind: api.MovePut, N: -1}, {Kind: api.MovePut, N: math.MinInt}, {Kind: api.MoveTell, N: -2}, {Kind: api.MoveTell, N: math.MinInt},
	} {
		if s, e := arena.Text(m); e != api.ErrForm || s != "" {
			t.Errorf("Text of %v: %q, %v", m, s, e)
		}
	}
}

// P4.8 and R9: texts of no move.
func TestNoMoveTexts(t *testing.T) {
	l := []string{
		"", "1", "?", "=", "!", "*", ".", "1.1", "=1", "!1", "!*", ".1?", "1.?", "1.0?", "1.01?", "01?", "00?", "-0?", "-1?", "+1?", "1.-1?", "1.+1?", "1?0", "1??", "1?!", "1!?", "1=", "1!", "1=*", "1=-1", "1=-0", "1=+0", "1=01", "1!01", "1!-1", "1!-0", "1!+0", "1!**", "1!*0", "1!0*", "1==1", "1!!1", "1=!1", "1!=1", "1.1.1?", "1..1?", "1 ?", " 1?", "1? ", "1?\n", "1_0?", "0x1?", "1e1?", "a?", "x", "1!0x1", "\x00?", "\xff", "١?",
		"9223372036854775808?", "1.9223372036854775808?", "1=9223372036854775808", "1!9223372036854775808", "1!18446744073709551615", "-9223372036854775808?", strings.Repeat("1", 100000) + "?", strings.Repeat("?", 100000), strings.Repeat("1.", 100000),
	}
	for _, s := range l {
		if m, e := arena.Parse(s); e != api.ErrForm || m != (api.Move{}) {
			t.Errorf("Parse of %.40q: %v, %v", s, m, e)
		}
	}
}

// bent returns a text in which some bytes are others, have gone, or are new.
func bent(r *rand.Rand, s, bytes string) string {
	for range r.Intn(3) {
		at := r.Intn(len(s) + 1)
		end := min(at+r.Intn(2), len(s))
		put := ""
		if r.Intn(3) > 0 {
			put = string(bytes[r.Intn(len(bytes))])
		}
		s = s[:at] + put + s[end:]
	}
	return s
}

// P4.8 and P4.14: the text of a move is read as this move, and what is no text of a move as none.
func TestMovesThereAndBack(t *testing.T) {
	r := source(10)
	numbers := []int{0, 1, 2, 9, 10, 12, 100, math.MaxInt}
	for range 60000 {
		m := api.Move{Id: pick(r, numbers...), Arg: pick(r, numbers...), Kind: uint8(1 + r.Intn(3))}
		if m.Kind != api.MoveAsk {
			m.N = pick(r, numbers...)
		}
		if m.Kind == api.MoveTell && r.Intn(4) == 0 {
			m.N = api.Esc
		}
		s, e := arena.Text(m)
		n, f := arena.Parse(s)
		if e != api.OK || f != api.OK || n != m || !isMoveText(s) {
			t.Fatalf("%v: %q, %v; %v, %v", m, s, e, n, f)
		}
		if n, e := arena.Parse(s[:len(s)-1]); e != api.ErrForm && (e != api.OK || n == m) {
			t.Fatalf("%q without its last byte: %v, %v", s, n, e)
		}
		u := bent(r, s, "0123456789.?=!*-+ ")
		n, e = arena.Parse(u)
		if (e == api.OK) != isMoveText(u) || e != api.OK && (e != api.ErrForm || n != (api.Move{})) {
			t.Fatalf("Parse of %q: %v, %v", u, n, e)
		}
		if v, _ := arena.Text(n); e == api.OK && v != u {
			t.Fatalf("Parse of %q is %v, whose text is %q", u, n, v)
		}
	}
}

// P4.9: the texts of arenas.
func TestArenaTexts(t *testing.T) {
	for s, a := range map[string]api.Arena{
		"int 1":          {Root: integer(1)},
		"cell 64; jumps": {Root: cell(64), Jumps: true},
		"int 2; (int 3, cell 2) -> int 1; cell 2":                                                            example(),
		"int 2; (int 3, cell 2) -> int 1; cell 2; jumps":                                                     jumping(example()),
		"cell 3; int 10; (cell 1) -> int 63":                                                                 {Ids: []api.Type{plain(integer(10)), arrow(integer(63), cell(1))}, Root: cell(3)},
		"cell 64" + strings.Repeat("; (cell 64"+strings.Repeat(", cell 64", 4)+") -> int 64", 8) + "; jumps": greatest(),
	} {
		if u, e := arena.Show(a); e != api.OK || u != s {
			t.Errorf("Show of %v: %q, %v", a, u, e)
		}
		if b, e := arena.Read(s); e != api.OK || !sameArena(a, b) {
			t.Errorf("Read of %q: %v, %v", s, b, e)
		}
	}
}

// P4.9: texts of no arena that is right, and the limits of those that are.
func TestNoArenaTexts(t *testing.T) {
	for _, s := range []string{
		"", " ", "int", "cell", "int ", "int  2", " int 2", "int 2 ", "int 2\n", "int2", "int 0", "int 00", "int 65", "int 01", "int -1", "int +1", "int 1e0", "int x", "cell 0", "cell 65", "com", "bool", "Int 2", "integer 2", "2", "int 9223372036854775808",
		"jumps", "; jumps", "int 2; ", "int 2;", "; int 2", "int 2;int 2", "int 2;  int 2", "int 2 ; int 2", "int 2, int 2", "int 2; jumps; int 2", "int 2; jumps; jumps", "int 2; jumps ", "int 2; jumps;", "int 2;jumps", "int 2jumps", "int 2; jump",
		"(int 2) -> int 2", "(int 2)", "int 2; () -> int 2", "int 2; (int 2) -> cell 2", "int 2; (int 2 -> int 2", "int 2; int 2) -> int 2", "int 2; (int 2)-> int 2", "int 2; (int 2) ->int 2", "int 2; (int 2) int 2", "int 2; (int 2)", "int 2; (int 2) -> ", "int 2; ((int 2) -> int 2", "int 2; (int 2) -> (int 2) -> int 2", "int 2; (int 2) -> int 2 -> int 2", "int 2; (int 2) -> int 2) -> int 2", "int 2; (int 2,int 2) -> int 2", "int 2; (int 2 , int 2) -> int 2", "int 2; (int 2, ) -> int 2", "int 2; (, int 2) -> int 2", "int 2; (int 0) -> int 2", "int 2; (int 2) -> int 0", "int 2; (cell 65) -> int 2", "int 2; -> int 2", "int 2; ) -> int 2", "int 2; (",
		"\x00", "\xff\xfe", "int 2; \xff", strings.Repeat("; ", 1000), "int 2" + strings.Repeat("; int 2", 9), "int 2" + strings.Repeat("; int 2", 9) + "; jumps", "int 2; (int 2" + strings.Repeat(", int 2", 5) + ") -> int 2", "int 2" + strings.Repeat("; int 2", 100000), "int " + strings.Repeat("1", 100000),
	} {
		if a, e := arena.Read(s); e != api.ErrForm || !sameArena(a, api.Arena{}) {
			t.Errorf("Read of %.60q: %v, %v", s, a, e)
		}
	}
	for _, s := range []string{"int 2" + strings.Repeat("; int 2", 8), "int 2" + strings.Repeat("; int 2", 8) + "; jumps", "int 2; (int 2" + strings.Repeat(", int 2", 4) + ") -> int 2"} {
		if _, e := arena.Read(s); e != api.OK {
			t.Errorf("Read of %q: %v", s, e)
		}
	}
}

// P4.9 and P4.14: the text of an arena is read as this arena, and what is no text of an arena as none.
func TestArenasThereAndBack(t *testing.T) {
	r := source(11)
	for _, a := range arenas(12, 20000) {
		s := show(t, a)
		b, e := arena.Read(s)
		if e != api.OK || !sameArena(a, b) || !arenaForm.MatchString(s) {
			t.Fatalf("Read of %q: %v, %v", s, b, e)
		}
		if b, e := arena.Read(s[:len(s)-1]); e != api.ErrForm && (e != api.OK || sameArena(a, b)) {
			t.Fatalf("%q without its last byte: %v, %v", s, b, e)
		}
		u := bent(r, s, "0123456789;, ()->intcel")
		b, e = arena.Read(u)
		if (e == api.OK) != arenaForm.MatchString(u) || e != api.OK && (e != api.ErrForm || !sameArena(b, api.Arena{})) {
			t.Fatalf("Read of %q: %v, %v", u, b, e)
		}
		if e == api.OK && show(t, b) != u {
			t.Fatalf("Read of %q is %v", u, b)
		}
	}
}
