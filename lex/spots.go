package lex

import (
	"strings"

	"riposte/api"
)

// Spot returns the line and the column of a place.
func Spot(s string, at int) (api.Spot, api.Errno) {
	if _, e := textError(s); e != api.OK {
		return api.Spot{}, e
	}
	if at < 0 || at > len(s) {
		return api.Spot{}, api.ErrRange
	}
	line := 1 + strings.Count(s[:at], "\n")
	column := at - strings.LastIndexByte(s[:at], '\n')
	return api.Spot{Line: line, Column: column}, api.OK
}

// At returns the place of a line and a column.
func At(s string, p api.Spot) (int, api.Errno) {
	if _, e := textError(s); e != api.OK {
		return 0, e
	}
	if p.Line < 1 || p.Column < 1 {
		return 0, api.ErrNone
	}
	from, end := 0, lineEnd(s, 0)
	for range p.Line - 1 {
		if end == len(s) {
			return 0, api.ErrNone
		}
		from = end + 1
		end = lineEnd(s, from)
	}
	// Columns are compared, not places: a great column has no place that fits.
	if p.Column-1 > end-from {
		return 0, api.ErrNone
	}
	return from + p.Column - 1, api.OK
}
