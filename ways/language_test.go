package ways_test

import (
	"go/ast"
	"go/token"
	"os"
	"path/filepath"
	"slices"
	"strconv"
	"strings"
	"testing"
)

// library are the packages that LANGUAGE.md lets the program use.
var library = strings.Fields("bytes cmp container/heap errors iter maps math math/bits slices sort strconv strings sync sync/atomic unicode unicode/utf8")

// packages returns the folders of the project's packages.
func packages(t *testing.T) []string {
	t.Helper()
	entries, err := os.ReadDir("..")
	if err != nil {
		t.Fatal(err)
	}
	var l []string
	for _, x := range entries {
		name := x.Name()
		if !x.IsDir() || strings.HasPrefix(name, ".") || name == "ways" || name == "sharedtests" {
			continue
		}
		files, _ := filepath.Glob(filepath.Join("..", name, "*"))
		for _, f := range files {
			if filepath.Ext(f) != ".go" {
				t.Errorf("%s: not a file of Go", f)
			}
		}
		l = append(l, name)
	}
	return l
}

// eachFile looks at all files of the project's packages that are no tests.
func eachFile(t *testing.T, look func(p project, f *ast.File)) {
	t.Helper()
	p := newProject()
	for _, name := range packages(t) {
		l, err := p.load(name)
		if err != nil {
			t.Fatal(err)
		}
		for _, f := range l.files {
			look(p, f)
		}
	}
}

// A package imports the project's own packages, and those of the library that are listed.
func TestImports(t *testing.T) {
	eachFile(t, func(p project, f *ast.File) {
		for _, x := range f.Imports {
			path, _ := strconv.Unquote(x.Path.Value)
			if !slices.Contains(library, path) && !strings.HasPrefix(path, "riposte/") {
				t.Errorf("%s: import of %s", p.set.Position(x.Pos()), path)
			}
		}
	})
}

// A package has no directives and no build tags.
func TestDirectives(t *testing.T) {
	eachFile(t, func(p project, f *ast.File) {
		for _, g := range f.Comments {
			for _, c := range g.List {
				if strings.HasPrefix(c.Text, "//go:") || strings.HasPrefix(c.Text, "// +build") {
					t.Errorf("%s: %s", p.set.Position(c.Pos()), c.Text)
				}
			}
		}
	})
}

// Functions have at most about 60 lines.
func TestLengths(t *testing.T) {
	eachFile(t, func(p project, f *ast.File) {
		for _, d := range f.Decls {
			first, last := p.set.Position(d.Pos()), p.set.Position(d.End())
			if x, ok := d.(*ast.FuncDecl); ok && last.Line-first.Line >= 60 {
				t.Errorf("%s: %s is long", first, x.Name.Name)
			}
		}
	})
}

// At package level a variable is a table of literals, or an error that errors.New makes.
func TestPackageLevel(t *testing.T) {
	eachFile(t, func(p project, f *ast.File) {
		for _, d := range f.Decls {
			g, ok := d.(*ast.GenDecl)
			if !ok || g.Tok != token.VAR {
				continue
			}
			for _, x := range g.Specs {
				if !isTable(x.(*ast.ValueSpec)) {
					t.Errorf("%s: no table", p.set.Position(x.Pos()))
				}
			}
		}
	})
}

// isTable tells whether the values of variables are tables of literals, or errors.
func isTable(x *ast.ValueSpec) bool {
	right := len(x.Values) > 0
	for _, v := range x.Values {
		if c, ok := v.(*ast.CallExpr); ok {
			s, ok := c.Fun.(*ast.SelectorExpr)
			right = right && ok && s.Sel.Name == "New"
			continue
		}
		ast.Inspect(v, func(n ast.Node) bool {
			switch n.(type) {
			case *ast.MapType, *ast.FuncType, *ast.CallExpr:
				right = false
			}
			return true
		})
	}
	return right
}
