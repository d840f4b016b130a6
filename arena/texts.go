package arena

import (
	"iter"
	"slices"
	"strconv"
	"strings"

	"riposte/api"
)

// signs has the sign of each kind of moves.
func signs() map[uint8]string {
	return map[uint8]string{api.MoveAsk: "?", api.MovePut: "=", api.MoveTell: "!"}
}

// What stands in the texts of arenas.
const (
	cellWord  = "cell"
	intWord   = "int"
	arrow     = ") -> "
	comma     = ", "
	next      = "; "
	jumpsText = next + "jumps"
)

// each returns what each element of a sequence becomes.
func each[T, U any](l iter.Seq[T], become func(T) U) []U {
	var out []U
	for x := range l {
		out = append(out, become(x))
	}
	return out
}

// hasText tells whether the numbers of a move are those of one that has a text.
func hasText(m api.Move) bool {
	switch {
	case m.Id < 0 || m.Arg < 0:
		return false
	case m.Kind == api.MoveAsk:
		return m.N == 0
	case m.Kind == api.MoveTell && m.N == api.Esc:
		return true
	}
	return m.N >= 0
}

// placeText returns what stands in front of the sign of a move.
func placeText(m api.Move) string {
	if m.Arg == 0 {
		return strconv.Itoa(m.Id)
	}
	return strconv.Itoa(m.Id) + "." + strconv.Itoa(m.Arg)
}

// valueText returns what stands behind the sign of a move.
func valueText(m api.Move) string {
	switch {
	case m.Kind == api.MoveAsk:
		return ""
	case m.N == api.Esc:
		return "*"
	}
	return strconv.Itoa(m.N)
}

// readMove returns the move of a kind that a text can be of: the text may be that of another one, or of none.
func readMove(s, sign string, kind uint8) api.Move {
	numbers, value, _ := strings.Cut(s, sign)
	id, arg, _ := strings.Cut(numbers, ".")
	m := api.Move{Id: number(id), Arg: number(arg), Kind: kind, N: number(value)}
	if value == "*" {
		m.N = api.Esc
	}
	return m
}

// number returns the number that a text can be of.
func number(s string) int {
	n, _ := strconv.Atoi(s)
	return n
}

func baseText(b api.Base) string {
	word := intWord
	if b.Cell {
		word = cellWord
	}
	return word + " " + strconv.Itoa(b.N)
}

// readBase returns the base type that a text can be of, readType the type, readArena the arena.
func readBase(s string) api.Base {
	word, size, _ := strings.Cut(s, " ")
	return api.Base{Cell: word == cellWord, N: number(size)}
}

func typeText(t api.Type) string {
	if len(t.Params) == 0 {
		return baseText(t.Result)
	}
	params := each(slices.Values(t.Params), baseText)
	return "(" + strings.Join(params, comma) + arrow + baseText(t.Result)
}

func readType(s string) api.Type {
	params, result, ok := strings.Cut(s, arrow)
	if !ok {
		return api.Type{Result: readBase(s)}
	}
	l := strings.SplitSeq(strings.TrimPrefix(params, "("), comma)
	return api.Type{Params: each(l, readBase), Result: readBase(result)}
}

func arenaText(a api.Arena) string {
	l := append([]string{baseText(a.Root)}, each(slices.Values(a.Ids), typeText)...)
	s := strings.Join(l, next)
	if a.Jumps {
		s += jumpsText
	}
	return s
}

func readArena(s string) api.Arena {
	s, jumps := strings.CutSuffix(s, jumpsText)
	root, ids, more := strings.Cut(s, next)
	a := api.Arena{Root: readBase(root), Jumps: jumps}
	if more {
		a.Ids = each(strings.SplitSeq(ids, next), readType)
	}
	return a
}
