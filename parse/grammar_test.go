package parse_test

import (
	"maps"
	"math/rand"
	"regexp"
	"slices"
	"strings"

	"riposte/api"
	"riposte/lex"
)

// theGrammar is that of the chapter; MORE is a ; that belongs to a term.
const theGrammar = `
program = { item }
item    = "import" NAME ":" type ";" | ( "def" | "export" ) NAME "(" [ param { "," param } ] ")" ":" base "=" term ";"
param   = NAME ":" type
type    = base | "(" base { "," base } ")" "->" base
base    = "int" NUMBER | "cell" NUMBER | "com" | "bool"
term    = first { MORE first }
first   = "if" first "then" first "else" first | "while" first "do" first | "new" NAME ":" NUMBER ":=" NUMBER "in" first | "label" NAME "in" first "else" first | "notice" NAME ":=" NUMBER "in" first | "choose" first "else" first | NAME ":=" first | or
or      = and { "or" and }
and     = not { "and" not }
not     = "not" not | test
test    = sum [ ( "=" | "<" ) sum ]
sum     = product { ( "+" | "-" ) product }
product = cast { "*" cast }
cast    = atom { "as" NUMBER }
atom    = NUMBER | "true" | "false" | "skip" | "hang" | "jump" NAME | "!" NAME | NAME [ "(" arg { "," arg } ")" ] | "(" term ")"
arg     = "fn" "(" NAME { "," NAME } ")" first | "{" "get" first ";" "put" NAME "." first "}" | term
`

// grammar has the right sides of each name; "" in front marks a name that the rules for groups have brought.
type grammar map[string][][]string

// newGrammar reads theGrammar.
func newGrammar() grammar {
	g := grammar{}
	for _, line := range strings.Split(strings.TrimSpace(theGrammar), "\n") {
		words := regexp.MustCompile(`\S+`).FindAllString(line, -1)
		l, _ := g.sides(words[2:])
		g[words[0]] = l
	}
	return g
}

// sides reads right sides up to a closing bracket, and returns what stands from there on.
func (g grammar) sides(words []string) ([][]string, []string) {
	l := [][]string{nil}
	for len(words) > 0 {
		w, last := words[0], len(l)-1
		words = words[1:]
		switch w {
		case "]", "}", ")":
			return l, words
		case "|":
			l = append(l, nil)
		case "[", "{", "(":
			inner, rest := g.sides(words)
			name := "group " + strings.Join(words, " ")
			if w == "[" {
				inner = append(inner, nil)
			} else if w == "{" {
				for i := range inner {
					inner[i] = append(inner[i], name)
				}
				inner = append(inner, nil)
			}
			g[name] = inner
			words = rest
			l[last] = append(l[last], name)
		default:
			l[last] = append(l[last], w)
		}
	}
	return l, nil
}

// matches tells whether a token of a list is what a word of a grammar names.
func matches(word string, l []api.Token, n int) bool {
	switch word {
	case "NAME":
		return l[n].Kind == api.TokName
	case "NUMBER":
		return l[n].Kind == api.TokNumber
	case "MORE":
		return l[n].Text == ";" && n+1 < len(l) && !slices.Contains([]string{"import", "def", "export"}, l[n+1].Text)
	}
	return word == `"`+l[n].Text+`"`
}

// spot is a right side that has been followed up to a dot, from a token on.
type spot struct {
	name           string
	side, dot, org int
}

// follow follows tokens as Earley does: it returns the number of the first one with which they do not go on (how many there are, if it is the end), or -1.
func (g grammar) follow(l []api.Token) int {
	sets := make([]map[spot]bool, len(l)+1)
	for n := range sets {
		sets[n] = map[spot]bool{}
	}
	for i := range g["program"] {
		sets[0][spot{"program", i, 0, 0}] = true
	}
	for n, set := range sets {
		if len(set) == 0 {
			return n - 1
		}
		// A name that stands for nothing may be asked for after this has been seen.
		for before := 0; before < len(set); {
			before = len(set)
			for s := range maps.Clone(set) {
				g.grow(sets, n, l, s)
			}
		}
	}
	for s := range sets[len(l)] {
		if s.name == "program" && s.org == 0 && s.dot == len(g["program"][s.side]) {
			return -1
		}
	}
	return len(l)
}

// grow puts what follows from a spot into the sets.
func (g grammar) grow(sets []map[spot]bool, n int, l []api.Token, s spot) {
	side := g[s.name][s.side]
	if s.dot == len(side) {
		for up := range maps.Clone(sets[s.org]) {
			if x := g[up.name][up.side]; up.dot < len(x) && x[up.dot] == s.name {
				sets[n][spot{up.name, up.side, up.dot + 1, up.org}] = true
			}
		}
		return
	}
	word := side[s.dot]
	if sides, ok := g[word]; ok {
		for i := range sides {
			sets[n][spot{word, i, 0, n}] = true
		}
	} else if n < len(l) && matches(word, l, n) {
		sets[n+1][spot{s.name, s.side, s.dot + 1, s.org}] = true
	}
}

// say puts random words that a name of a grammar stands for behind others; when there are many already, as few as can be.
func (g grammar) say(r *rand.Rand, l []string, name string, depth int) []string {
	sides, ok := g[name]
	if !ok {
		return append(l, sayToken(r, name))
	}
	if len(l) > 50 {
		depth = 0
	}
	side := pick(r, sides...)
	switch {
	case depth <= 0 && (name == "first" || name == "arg" || name == "not" || strings.HasPrefix(name, "group")):
		side = sides[len(sides)-1]
	case depth <= 0 && name == "atom":
		side = []string{"NAME"}
	case name == "first" && r.Intn(3) > 0 || name == "not" && r.Intn(4) > 0 || name == "arg" && r.Intn(2) > 0:
		side = sides[len(sides)-1] // otherwise signs would be rare
	}
	for _, x := range side {
		l = g.say(r, l, x, depth-1)
	}
	return l
}

func sayToken(r *rand.Rand, word string) string {
	switch word {
	case "NAME":
		return pick(r, "x", "y", "f", "aB9")
	case "NUMBER":
		return pick(r, "0", "1", "2", "64", "1000000")
	case "MORE":
		return ";"
	}
	return strings.Trim(word, `"`)
}

// sayText returns a random text of a program of at most some items.
func (g grammar) sayText(r *rand.Rand, items int) string {
	var l []string
	for range r.Intn(items + 1) {
		x := g.say(r, nil, "item", 26)
		if len(x) < 60 {
			l = append(l, x...)
		}
	}
	return strings.Join(l, " ")
}

// spoilt returns a text in which some words are others, or not there, or stand elsewhere.
func spoilt(r *rand.Rand, s string) string {
	l := strings.Fields(s)
	more := strings.Fields("; ; , ( ) { } : := = < + - * ! . -> x 1 import def export int com bool cell if then else while do new in label notice choose or and not as true skip jump fn get put of")
	for range 1 + r.Intn(3) {
		n := r.Intn(len(l) + 1)
		switch r.Intn(4) {
		case 0:
			l = slices.Insert(l, n, pick(r, more...))
		case 1:
			l = slices.Delete(l, min(n, len(l)), min(n+1, len(l)))
		case 2:
			if n < len(l) {
				l[n] = pick(r, more...)
			}
		case 3:
			if len(l) > 0 {
				l = l[:n]
			}
		}
	}
	return strings.Join(l, pick(r, " ", "\n", " ~c ;\n"))
}

// tokensOf returns the tokens of a text that has them.
func tokensOf(s string) ([]api.Token, bool) {
	l, _, e := lex.Tokens(s)
	return l, e == api.OK
}
