package parse

import (
	"slices"
	"strconv"

	"riposte/api"
	"riposte/lex"
)

// stop is the place of the token with which a text does not go on. A reader panics with it.
type stop int

// knot is a node with its kids, while a text is read.
type knot struct {
	api.TreeNode
	kids []*knot
}

func (k *knot) add(kids ...*knot) { k.kids = append(k.kids, kids...) }

// flat returns a list with a knot and all below it as nodes behind its end.
func (k *knot) flat(l []api.TreeNode) []api.TreeNode {
	n := len(l)
	l = append(l, k.TreeNode)
	for _, x := range k.kids {
		l = x.flat(l)
	}
	l[n].Size = len(l) - n
	return l
}

// reader reads the tokens of a text.
type reader struct {
	tokens []api.Token // behind those of the text stands one of no kind, at the end
	next   int
	firsts map[string]func(*reader) *knot
}

// newReader returns a reader of a text; with an error, where it is.
func newReader(s string) (*reader, int, api.Errno) {
	l, at, e := lex.Tokens(s)
	if e != api.OK {
		return nil, at, e
	}
	return &reader{tokens: append(l, api.Token{At: len(s)}), firsts: firsts()}, 0, api.OK
}

func (r *reader) now() api.Token { return r.tokens[r.next] }

func (r *reader) atEnd() bool { return r.now().Kind == 0 }

// is tells whether the next token is one of some signs or words.
func (r *reader) is(signs ...string) bool { return slices.Contains(signs, r.now().Text) }

// beginsItem tells whether a token is the keyword of an item.
func beginsItem(t api.Token) bool {
	return t.Text == "import" || t.Text == "def" || t.Text == "export"
}

// toItem goes on to the next keyword of an item. It is never the one with which an item began that could not be read: behind this one more token has been passed.
func (r *reader) toItem() {
	for !r.atEnd() && !beginsItem(r.now()) {
		r.next++
	}
}

// attempt reads a part; if the text does not go on, it returns nil and the place.
func (r *reader) attempt(part func() *knot) (k *knot, at int) {
	defer func() {
		switch x := recover().(type) {
		case nil: // the part has been read
		case stop:
			k, at = nil, int(x)
		}
	}()
	return part(), 0
}

// fail ends the attempt at the next token.
func (r *reader) fail() { panic(stop(r.now().At)) }

// pass goes past some signs and words, one after the other.
func (r *reader) pass(signs ...string) {
	for _, x := range signs {
		if !r.is(x) {
			r.fail()
		}
		r.next++
	}
}

// take goes past a token of a kind, and returns its text.
func (r *reader) take(kind uint8) string {
	t := r.now()
	if t.Kind != kind {
		r.fail()
	}
	r.next++
	return t.Text
}

func (r *reader) name() string { return r.take(api.TokName) }

func (r *reader) number() int {
	n, _ := strconv.Atoi(r.take(api.TokNumber)) // a right one has digits alone, and few of them
	return n
}

// here returns a knot whose token is the next one.
func (r *reader) here(kind uint8) *knot {
	k := &knot{}
	k.Kind, k.At = kind, r.now().At
	return k
}

// grow returns a knot whose token is the next one, and goes past this.
func (r *reader) grow(kind uint8, kids ...*knot) *knot {
	k := r.here(kind)
	k.add(kids...)
	r.next++
	return k
}

// named reads a knot whose token is a name.
func (r *reader) named(kind uint8) *knot {
	k := r.here(kind)
	k.Text = r.name()
	return k
}

// commas reads parts with commas between them.
func (r *reader) commas(part func() *knot) []*knot {
	l := []*knot{part()}
	for r.is(",") {
		r.pass(",")
		l = append(l, part())
	}
	return l
}
