// Package rules tests how the program is written: which packages there are, what they may import, and what may stand in their files.
package rules

import (
	"go/ast"
	"go/format"
	"go/parser"
	"go/token"
	"io/fs"
	"os"
	"path/filepath"
	"slices"
	"strconv"
	"strings"
	"testing"
)

const (
	root   = ".."
	module = "regesta/"
)

var layers = strings.Fields("api span word value codec disk wal tree ivals schema lex parse show check expr rows portion keep vers past plan query txn base redo durable script")

var library = strings.Fields("bytes cmp container/heap errors iter maps math math/bits slices sort strconv strings sync sync/atomic unicode unicode/utf8")

type file struct {
	folder, path string
	text         []byte
	set          *token.FileSet
	tree         *ast.File
}

// programFiles leaves out tests, which may use all of Go, and the tests that are laid beside the project.
func programFiles(t *testing.T) []file {
	t.Helper()
	var out []file
	err := filepath.WalkDir(root, func(path string, d fs.DirEntry, err error) error {
		if err != nil {
			return err
		}
		name := d.Name()
		if d.IsDir() && path != root && (strings.HasPrefix(name, ".") || name == "sharedtests") {
			return fs.SkipDir
		}
		if d.IsDir() || !strings.HasSuffix(name, ".go") || strings.HasSuffix(name, "_test.go") {
			return nil
		}
		text, err := os.ReadFile(path)
		if err != nil {
			return err
		}
		set := token.NewFileSet()
		tree, err := parser.ParseFile(set, path, text, parser.ParseComments)
		if err != nil {
			return err
		}
		folder, err := filepath.Rel(root, filepath.Dir(path))
		out = append(out, file{folder, path, text, set, tree})
		return err
	})
	if err != nil {
		t.Fatal(err)
	}
	return out
}

func imports(t *testing.T, f file) []string {
	t.Helper()
	var out []string
	for _, i := range f.tree.Imports {
		path, err := strconv.Unquote(i.Path.Value)
		if err != nil {
			t.Fatal(err)
		}
		out = append(out, path)
	}
	return out
}

func TestAllLayersAreThere(t *testing.T) {
	var folders []string
	for _, f := range programFiles(t) {
		folders = append(folders, f.folder)
		if f.tree.Name.Name != f.folder {
			t.Errorf("%s is of package %s", f.path, f.tree.Name.Name)
		}
	}
	for _, name := range layers {
		if !slices.Contains(folders, name) {
			t.Errorf("package %s is missing", name)
		}
	}
}

func TestImports(t *testing.T) {
	for _, f := range programFiles(t) {
		here := slices.Index(layers, f.folder)
		for _, path := range imports(t, f) {
			own, ok := strings.CutPrefix(path, module)
			if !ok {
				if !slices.Contains(library, path) {
					t.Errorf("%s imports %s", f.path, path)
				}
				continue
			}
			if there := slices.Index(layers, own); here >= 0 && there >= here {
				t.Errorf("%s imports %s, which is not ahead of it", f.path, own)
			}
		}
	}
}

func TestLayout(t *testing.T) {
	for _, f := range programFiles(t) {
		formatted, err := format.Source(f.text)
		if err != nil {
			t.Fatal(err)
		}
		if string(formatted) != string(f.text) {
			t.Errorf("%s is not in gofmt's layout", f.path)
		}
		for _, group := range f.tree.Comments {
			for _, c := range group.List {
				if strings.HasPrefix(c.Text, "//go:") || strings.HasPrefix(c.Text, "// +build") {
					t.Errorf("%s: %s", f.path, c.Text)
				}
			}
		}
	}
}

func TestFunctionsAreSmall(t *testing.T) {
	for _, f := range programFiles(t) {
		for _, d := range f.tree.Decls {
			fn, ok := d.(*ast.FuncDecl)
			if !ok {
				continue
			}
			if n := f.set.Position(fn.End()).Line - f.set.Position(fn.Pos()).Line + 1; n > 60 {
				t.Errorf("%s: %s has %d lines", f.path, fn.Name.Name, n)
			}
		}
	}
}

// Of what may not stand at package level the test sees what shows in the text: no value, a map, a function, a call other than errors.New, a text.
func TestPackageVariables(t *testing.T) {
	for _, f := range programFiles(t) {
		for _, d := range f.tree.Decls {
			g, ok := d.(*ast.GenDecl)
			if !ok || g.Tok != token.VAR {
				continue
			}
			for _, s := range g.Specs {
				v := s.(*ast.ValueSpec)
				if len(v.Values) != len(v.Names) {
					t.Errorf("%s: %s has no value of its own", f.path, v.Names[0].Name)
				}
				for _, x := range v.Values {
					if why := wrongAtPackageLevel(x); why != "" {
						t.Errorf("%s: %s is %s", f.path, v.Names[0].Name, why)
					}
				}
			}
		}
	}
}

func wrongAtPackageLevel(x ast.Expr) string {
	switch v := x.(type) {
	case *ast.FuncLit:
		return "a function"
	case *ast.BasicLit:
		if v.Kind == token.STRING {
			return "a text, but no constant"
		}
	case *ast.CompositeLit:
		if _, ok := v.Type.(*ast.MapType); ok {
			return "a map"
		}
	case *ast.CallExpr:
		if s, ok := v.Fun.(*ast.SelectorExpr); !ok || s.Sel.Name != "New" {
			return "made by a call"
		}
	case *ast.UnaryExpr:
		if v.Op == token.AND {
			return "a pointer"
		}
	}
	return ""
}
