package lex

import (
	"strings"

	"riposte/api"
)

// change is a splice that knows what it does.
type change struct {
	api.Splice
	out string // what it takes out
	at  int    // where what it puts in begins, in the text after
}

// growth returns how much longer a change makes a text.
func (c change) growth() int { return len(c.Text) - len(c.out) }

// spliceError returns the first error that splices have before the text after them is looked at.
func spliceError(s string, l []api.Splice) api.Errno {
	if len(l) > api.MaxSplices {
		return api.ErrLimit
	}
	last := 0
	for _, x := range l {
		if x.From < last || x.To < x.From || x.To > len(s) {
			return api.ErrRange
		}
		last = x.To
	}
	for _, x := range l {
		if firstAlien(x.Text) < len(x.Text) {
			return api.ErrArg
		}
	}
	return api.OK
}

// plan returns what right splices do to a text. The text after them must not be too long.
func plan(s string, l []api.Splice) ([]change, api.Errno) {
	changes := make([]change, 0, len(l))
	grown := 0
	for _, x := range l {
		c := change{Splice: x, out: s[x.From:x.To], at: x.From + grown}
		grown += c.growth()
		changes = append(changes, c)
	}
	if len(s)+grown > api.MaxText {
		return nil, api.ErrLimit
	}
	return changes, api.OK
}

// planAny is plan for any text and splices.
func planAny(s string, l []api.Splice) ([]change, api.Errno) {
	if _, e := textError(s); e != api.OK {
		return nil, e
	}
	if e := spliceError(s, l); e != api.OK {
		return nil, e
	}
	return plan(s, l)
}

// textAfter returns the text after changes.
func textAfter(s string, changes []change) string {
	var b strings.Builder
	from := 0
	for _, c := range changes {
		b.WriteString(s[from:c.From])
		b.WriteString(c.Text)
		from = c.To
	}
	b.WriteString(s[from:])
	return b.String()
}

// Apply returns the text after splices.
func Apply(s string, l []api.Splice) (string, api.Errno) {
	changes, e := planAny(s, l)
	if e != api.OK {
		return "", e
	}
	return textAfter(s, changes), api.OK
}

// Moved returns where a byte stands after splices.
func Moved(s string, l []api.Splice, at int) (int, api.Errno) {
	changes, e := planAny(s, l)
	if e != api.OK {
		return 0, e
	}
	if at < 0 || at > len(s) {
		return 0, api.ErrRange
	}
	to := at
	for _, c := range changes {
		if c.From <= at && at < c.To {
			return 0, api.ErrNone
		}
		if c.To <= at {
			to += c.growth()
		}
	}
	return to, api.OK
}

// Undo returns the splices that lead back.
func Undo(s string, l []api.Splice) ([]api.Splice, api.Errno) {
	changes, e := planAny(s, l)
	if e != api.OK {
		return nil, e
	}
	back := make([]api.Splice, 0, len(changes))
	for _, c := range changes {
		back = append(back, api.Splice{From: c.at, To: c.at + len(c.Text), Text: c.out})
	}
	return back, api.OK
}

// Rename returns a text in which a name is another one.
func Rename(s, old, name string) (string, api.Errno) {
	l, _, e := Tokens(s)
	if e != api.OK {
		return "", e
	}
	words := keywords()
	if !isName(old, words) || !isName(name, words) {
		return "", api.ErrArg
	}
	var splices []api.Splice
	twice := false
	for _, t := range l {
		// Neither text is a keyword, so that only names can have them.
		twice = twice || t.Text == name
		if t.Text == old {
			splices = append(splices, api.Splice{From: t.At, To: t.At + len(old), Text: name})
		}
	}
	if len(splices) == 0 {
		return "", api.ErrNone
	}
	if twice {
		return "", api.ErrTwice
	}
	// There may be more than MaxSplices names, so that Apply would not do.
	changes, e := plan(s, splices)
	if e != api.OK {
		return "", e
	}
	return textAfter(s, changes), api.OK
}
