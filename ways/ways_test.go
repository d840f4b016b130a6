package ways_test

import (
	"go/ast"
	"go/importer"
	"go/parser"
	"go/token"
	"go/types"
	"path/filepath"
	"slices"
	"strings"
	"testing"
)

// ways are the features that the document's section 'Ways' names for the layers that are built.
var ways = []struct{ layer, features string }{
	{"lex", "embedding promoted iota map variadic generic-function closure range-function range-integer struct-compared"},
	{"parse", "embedding promoted map closure method-value method-expression range-function generic-function variadic defer recover panic type-switch"},
	{"check", "embedding promoted map variadic closure method-value method-expression function-field range-function range-integer struct-compared"},
	{"arena", "embedding promoted method-value method-expression range-function range-integer generic-function closure map range-map struct-compared"},
	{"play", "embedding promoted map closure generic-function method-expression range-function struct-compared"},
	{"run", "closure embedding promoted map method-expression iota range-integer"},
	{"core", "embedding promoted map closure method-expression generic-function range-function variadic defer recover panic type-switch array"},
}

// layer is a package of the project, with its types.
type layer struct {
	files []*ast.File
	pack  *types.Package
	types.Info
	called map[ast.Expr]bool // what stands in front of the arguments of a call
}

// project loads packages of the project from their source, and others from the library's.
type project struct {
	set    *token.FileSet
	loaded map[string]*layer
	others types.Importer
}

func newProject() project {
	set := token.NewFileSet()
	return project{set, map[string]*layer{}, importer.ForCompiler(set, "source", nil)}
}

// Import implements types.Importer.
func (p project) Import(path string) (*types.Package, error) {
	name, ours := strings.CutPrefix(path, "riposte/")
	if !ours {
		return p.others.Import(path)
	}
	l, err := p.load(name)
	if err != nil {
		return nil, err
	}
	return l.pack, nil
}

func (p project) load(name string) (*layer, error) {
	if l, ok := p.loaded[name]; ok {
		return l, nil
	}
	l := &layer{called: map[ast.Expr]bool{}}
	l.Types, l.Uses, l.Selections = map[ast.Expr]types.TypeAndValue{}, map[*ast.Ident]types.Object{}, map[*ast.SelectorExpr]*types.Selection{}
	paths, err := filepath.Glob(filepath.Join("..", name, "*.go"))
	for _, path := range paths {
		if strings.HasSuffix(path, "_test.go") {
			continue
		}
		f, err := parser.ParseFile(p.set, path, nil, parser.ParseComments)
		if err != nil {
			return nil, err
		}
		l.files = append(l.files, f)
	}
	if err != nil {
		return nil, err
	}
	config := types.Config{Importer: p}
	l.pack, err = config.Check("riposte/"+name, p.set, l.files, &l.Info)
	p.loaded[name] = l
	return l, err
}

// features returns the features that a node of the source has.
func (l *layer) features(n ast.Node) []string {
	switch x := n.(type) {
	case *ast.StructType:
		return l.fields(x)
	case *ast.SelectorExpr:
		return l.selected(x)
	case *ast.CallExpr:
		l.called[ast.Unparen(x.Fun)] = true
	case *ast.Ident:
		if o := l.Uses[x]; o != nil && o.Pkg() == nil {
			return []string{o.Name()} // iota, panic, recover
		}
	case *ast.DeferStmt:
		return []string{"defer"}
	case *ast.TypeSwitchStmt:
		return []string{"type-switch"}
	case *ast.MapType:
		return []string{"map"}
	case *ast.ArrayType:
		if x.Len != nil {
			return []string{"array"}
		}
	case *ast.Ellipsis:
		return []string{"variadic"}
	case *ast.FuncDecl:
		if x.Type.TypeParams != nil {
			return []string{"generic-function"}
		}
	case *ast.FuncLit:
		return []string{"closure"}
	case *ast.RangeStmt:
		return []string{ranged(l.TypeOf(x.X).Underlying())}
	case *ast.BinaryExpr:
		if _, ok := l.TypeOf(x.X).Underlying().(*types.Struct); ok && (x.Op == token.EQL || x.Op == token.NEQ) {
			return []string{"struct-compared"}
		}
	}
	return nil
}

// fields returns the features that the fields of a struct have.
func (l *layer) fields(x *ast.StructType) []string {
	var has []string
	for _, f := range x.Fields.List {
		if len(f.Names) == 0 {
			has = append(has, "embedding")
		}
		if _, ok := l.TypeOf(f.Type).Underlying().(*types.Signature); ok {
			has = append(has, "function-field")
		}
	}
	return has
}

// selected returns the features that a field or a method has where it is named.
func (l *layer) selected(x *ast.SelectorExpr) []string {
	s := l.Selections[x]
	if s == nil {
		return nil
	}
	var has []string
	if len(s.Index()) > 1 {
		has = append(has, "promoted")
	}
	if s.Kind() == types.MethodExpr {
		has = append(has, "method-expression")
	}
	if s.Kind() == types.MethodVal && !l.called[x] {
		has = append(has, "method-value")
	}
	return has
}

// ranged returns the feature that a range over a type is.
func ranged(t types.Type) string {
	switch x := t.(type) {
	case *types.Signature:
		return "range-function"
	case *types.Map:
		return "range-map"
	case *types.Basic:
		if x.Info()&types.IsInteger != 0 {
			return "range-integer"
		}
	}
	return ""
}

// The line of each layer in the document's section 'Ways'.
func TestWays(t *testing.T) {
	p := newProject()
	for _, w := range ways {
		l, err := p.load(w.layer)
		if err != nil {
			t.Fatal(err)
		}
		var has []string
		for _, f := range l.files {
			ast.Inspect(f, func(n ast.Node) bool {
				has = append(has, l.features(n)...)
				return true
			})
		}
		for _, x := range strings.Fields(w.features) {
			if !slices.Contains(has, x) {
				t.Errorf("package %s: no %s", w.layer, x)
			}
		}
	}
}
