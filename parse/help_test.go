package parse_test

import (
	"math/rand"
	"regexp"
	"slices"
	"strconv"
	"strings"
	"testing"

	"riposte/api"
	"riposte/parse"
)

// source returns the same numbers in each run, so that a test that fails fails again.
func source(seed int64) *rand.Rand { return rand.New(rand.NewSource(seed)) }

func pick[T any](r *rand.Rand, l ...T) T { return l[r.Intn(len(l))] }

// parsed returns the tree of a text that has one.
func parsed(t *testing.T, s string) api.Tree {
	t.Helper()
	x, at, e := parse.Parse(s)
	if e != api.OK || at != 0 {
		t.Fatalf("Parse of %q: %d, %v", s, at, e)
	}
	return x
}

// printed returns the text of a tree that has one.
func printed(t *testing.T, x api.Tree) string {
	t.Helper()
	s, e := parse.Print(x)
	if e != api.OK {
		t.Fatalf("Print of %v: %v", x, e)
	}
	return s
}

// bare returns nodes without their places.
func bare(l []api.TreeNode) []api.TreeNode {
	l = slices.Clone(l)
	for n := range l {
		l[n].At = 0
	}
	return l
}

// same tells whether two trees are the same, but for places.
func same(x, y api.Tree) bool { return slices.Equal(bare(x.Nodes), bare(y.Nodes)) }

// node returns a node with its kids.
func node(x api.TreeNode, kids ...[]api.TreeNode) []api.TreeNode {
	l := append([]api.TreeNode{x}, slices.Concat(kids...)...)
	l[0].Size = len(l)
	return l
}

// leaf and named return nodes without kids.
func leaf(kind uint8) []api.TreeNode { return node(api.TreeNode{Kind: kind}) }

func named(kind uint8, s string) []api.TreeNode { return node(api.TreeNode{Kind: kind, Text: s}) }

// number returns a NumNode.
func number(n int) []api.TreeNode { return node(api.TreeNode{Kind: api.NumNode, N: n}) }

// def returns an item whose term is given, and program a program of items.
func def(term []api.TreeNode) []api.TreeNode {
	return node(api.TreeNode{Kind: api.DefItem, Text: "f"}, node(api.TreeNode{Kind: api.IntType, N: 1}), term)
}

func program(items ...[]api.TreeNode) api.Tree {
	return api.Tree{Nodes: node(api.TreeNode{Kind: api.ProgramNode}, items...)}
}

// row is what the chapter's table says of a kind: letters of its fields, and the letters of its kids.
type row struct{ letter, fields, kids string }

// Letters: P a program, i an item, p a ParamNode, y an ArrowType, b a base, t a term, f a FnNode, o an ObjectNode, n a BindNode; T, N and M are fields.
var table = map[uint8]row{
	api.ProgramNode: {"P", "", "i*"}, api.ImportItem: {"i", "T", "[yb]"}, api.DefItem: {"i", "T", "p*bt"}, api.ExportItem: {"i", "T", "p*bt"}, api.ParamNode: {"p", "T", "[yb]"},
	api.IntType: {"b", "N", ""}, api.CellType: {"b", "N", ""}, api.ArrowType: {"y", "", "bb+"},
	api.SeqNode: {"t", "", "tt+"}, api.IfNode: {"t", "", "ttt"}, api.WhileNode: {"t", "", "tt"}, api.NewNode: {"t", "TNM", "t"}, api.LabelNode: {"t", "T", "tt"}, api.NoticeNode: {"t", "TN", "t"}, api.ChooseNode: {"t", "", "tt"}, api.PutNode: {"t", "T", "t"},
	api.OrNode: {"t", "", "tt"}, api.AndNode: {"t", "", "tt"}, api.NotNode: {"t", "", "t"}, api.EqNode: {"t", "", "tt"}, api.LessNode: {"t", "", "tt"}, api.AddNode: {"t", "", "tt"}, api.SubNode: {"t", "", "tt"}, api.MulNode: {"t", "", "tt"}, api.AsNode: {"t", "N", "t"},
	api.NumNode: {"t", "N", ""}, api.TrueNode: {"t", "", ""}, api.FalseNode: {"t", "", ""}, api.SkipNode: {"t", "", ""}, api.HangNode: {"t", "", ""}, api.JumpNode: {"t", "T", ""}, api.GetNode: {"t", "T", ""}, api.NameNode: {"t", "T", ""}, api.CallNode: {"t", "T", "[tfo]+"},
	api.FnNode: {"f", "", "n+t"}, api.ObjectNode: {"o", "", "tnt"}, api.BindNode: {"n", "T", ""},
}

var keywords = strings.Fields("and as bool cell choose com def do else export false fn get hang if import in int jump label new not notice of or put skip then true while")

// patterns has the kids of all rows as regular expressions.
var patterns = func() map[string]*regexp.Regexp {
	l := map[string]*regexp.Regexp{}
	for _, x := range table {
		l[x.kids] = regexp.MustCompile("^" + x.kids + "$")
	}
	return l
}()

var isName = regexp.MustCompile(`^[a-z][a-zA-Z0-9]{0,11}$`)

// rowError returns the error of a tree as the chapter says it, node by node.
func rowError(x api.Tree) api.Errno {
	deepest := 0
	var right func(l []api.TreeNode, depth int) bool
	right = func(l []api.TreeNode, depth int) bool {
		deepest = max(deepest, depth)
		r, ok := table[l[0].Kind]
		letters, rest := "", l[1:]
		for len(rest) > 0 {
			size := rest[0].Size
			if size < 1 || size > len(rest) || !right(rest[:size], depth+1) {
				return false
			}
			letters += table[rest[0].Kind].letter
			rest = rest[size:]
		}
		return ok && rightFields(l[0], r.fields) && patterns[r.kids].MatchString(letters)
	}
	switch l := x.Nodes; {
	case len(l) > 900:
		return api.ErrLimit
	case len(l) == 0 || l[0].Kind != api.ProgramNode || l[0].Size != len(l) || !right(l, 0):
		return api.ErrForm
	case deepest > 60:
		return api.ErrLimit
	}
	items := 0
	for _, n := range x.Nodes {
		if table[n.Kind].letter == "i" {
			items++
		}
	}
	if items > 24 {
		return api.ErrLimit
	}
	return api.OK
}

func rightFields(x api.TreeNode, fields string) bool {
	rightName := x.Text == ""
	if strings.Contains(fields, "T") {
		rightName = isName.MatchString(x.Text) && !slices.Contains(keywords, x.Text)
	}
	rightNumber := func(n int, field string) bool {
		return n == 0 || n > 0 && n <= 1000000 && strings.Contains(fields, field)
	}
	return rightName && rightNumber(x.N, "N") && rightNumber(x.M, "M")
}

// grow returns the nodes of a random right node of a kind with a letter.
func grow(r *rand.Rand, letter byte, depth int) []api.TreeNode {
	var kinds []uint8
	for k, x := range table {
		if x.letter[0] == letter && (depth > 0 || x.kids == "" || letter != 't') {
			kinds = append(kinds, k)
		}
	}
	slices.Sort(kinds)
	x := api.TreeNode{Kind: pick(r, kinds...), At: r.Intn(9) - 4}
	fields := table[x.Kind].fields
	if strings.Contains(fields, "T") {
		x.Text = pick(r, "x", "y", "f", "aB9", "abcdefghijkl")
	}
	if strings.Contains(fields, "N") {
		x.N = pick(r, 0, 1, 2, 3, 64, 1000000)
	}
	if strings.Contains(fields, "M") {
		x.M = pick(r, 0, 1, 2, 1000000)
	}
	var kids [][]api.TreeNode
	for _, c := range []byte(example(r, table[x.Kind].kids)) {
		kids = append(kids, grow(r, c, depth-1))
	}
	return node(x, kids...)
}

// example returns letters that a pattern of a row matches.
func example(r *rand.Rand, pattern string) string {
	many := func(c string, least int) string { return strings.Repeat(c, least+r.Intn(3)) }
	switch pattern {
	case "i*":
		return many("i", 0)
	case "p*bt":
		return many("p", 0) + "bt"
	case "[yb]":
		return pick(r, "y", "b")
	case "bb+":
		return many("b", 2)
	case "tt+":
		return many("t", 2)
	case "n+t":
		return many("n", 1) + "t"
	case "[tfo]+":
		s := pick(r, "t", "f", "o")
		for range r.Intn(3) {
			s += pick(r, "t", "f", "o")
		}
		return s
	}
	return pattern
}

// anyTree returns a random right tree.
func anyTree(r *rand.Rand) api.Tree {
	for {
		x := api.Tree{Nodes: grow(r, 'P', 6)}
		if len(x.Nodes) <= 200 {
			return x
		}
	}
}

// loud returns a text of a node with brackets around all terms that are not items' own.
func loud(l []api.TreeNode) string {
	var kids []string
	for rest := l[1:]; len(rest) > 0; rest = rest[rest[0].Size:] {
		s := loud(rest[:rest[0].Size])
		if table[rest[0].Kind].letter == "t" {
			s = " ( " + s + " ) "
		}
		kids = append(kids, s)
	}
	return spoken(l[0], kids)
}

// spoken returns the text of a node with those of its kids.
func spoken(x api.TreeNode, kids []string) string {
	n, m, last := strconv.Itoa(x.N), strconv.Itoa(x.M), len(kids)-1
	list := func(l []string) string { return "(" + strings.Join(l, " , ") + ")" }
	signs := map[uint8]string{api.SeqNode: ";", api.OrNode: "or", api.AndNode: "and", api.EqNode: "=", api.LessNode: "<", api.AddNode: "+", api.SubNode: "-", api.MulNode: "*"}
	words := map[uint8]string{api.TrueNode: "true", api.FalseNode: "false", api.SkipNode: "skip", api.HangNode: "hang"}
	switch x.Kind {
	case api.ProgramNode:
		return strings.Join(kids, "~ ;\n")
	case api.ImportItem:
		return "import " + x.Text + " : " + kids[0] + " ; "
	case api.DefItem:
		return "def " + x.Text + list(kids[:last-1]) + " : " + kids[last-1] + " = " + kids[last] + " ; "
	case api.ExportItem:
		return "export " + x.Text + list(kids[:last-1]) + " : " + kids[last-1] + " = " + kids[last] + " ; "
	case api.ParamNode:
		return x.Text + " : " + kids[0]
	case api.IntType:
		return "int " + n
	case api.CellType:
		return "cell " + n
	case api.ArrowType:
		return list(kids[:last]) + " -> " + kids[last]
	case api.IfNode:
		return "if " + kids[0] + " then " + kids[1] + " else " + kids[2]
	case api.WhileNode:
		return "while " + kids[0] + " do " + kids[1]
	case api.NewNode:
		return "new " + x.Text + " : " + n + " := " + m + " in " + kids[0]
	case api.LabelNode:
		return "label " + x.Text + " in " + kids[0] + " else " + kids[1]
	case api.NoticeNode:
		return "notice " + x.Text + " := " + n + " in " + kids[0]
	case api.ChooseNode:
		return "choose " + kids[0] + " else " + kids[1]
	case api.PutNode:
		return x.Text + " := " + kids[0]
	case api.NotNode:
		return "not " + kids[0]
	case api.AsNode:
		return kids[0] + " as " + n
	case api.NumNode:
		return n
	case api.JumpNode:
		return "jump " + x.Text
	case api.GetNode:
		return "! " + x.Text
	case api.NameNode, api.BindNode:
		return x.Text
	case api.CallNode:
		return x.Text + list(kids)
	case api.FnNode:
		return "fn" + list(kids[:last]) + kids[last]
	case api.ObjectNode:
		return "{ get " + kids[0] + " ; put " + kids[1] + " . " + kids[2] + " }"
	}
	return words[x.Kind] + strings.Join(kids, " "+signs[x.Kind]+" ")
}
