// Package rules holds the program's files against the rules of its language, as far as their texts show it.
package rules

import (
	"bytes"
	"go/ast"
	"go/format"
	"go/parser"
	"go/token"
	"io/fs"
	"os"
	"path/filepath"
	"strings"
	"testing"
)

const (
	root      = ".."
	mostLines = 60
	library   = " bytes cmp container/heap errors iter maps math math/big math/bits slices sort strconv strings sync sync/atomic unicode unicode/utf8 "
	syncNames = " Mutex RWMutex WaitGroup Once "
	startUp   = " octet.sums job.commands " // variables of which the document asks that a call makes them, or init fills them
)

type file struct {
	name  string
	text  []byte
	tree  *ast.File
	lines *token.FileSet
}

// programFiles are the Go files of the program: neither its tests nor what is laid beside it.
func programFiles(t *testing.T) []file {
	t.Helper()
	var out []file
	err := filepath.WalkDir(root, func(path string, d fs.DirEntry, err error) error {
		if err != nil {
			return err
		}
		if d.IsDir() && (d.Name() == ".git" || d.Name() == "sharedtests") {
			return filepath.SkipDir
		}
		if d.IsDir() || strings.HasSuffix(path, "_test.go") || !strings.HasSuffix(path, ".go") {
			return nil
		}
		text, err := os.ReadFile(path)
		if err != nil {
			return err
		}
		lines := token.NewFileSet()
		tree, err := parser.ParseFile(lines, path, text, parser.ParseComments)
		out = append(out, file{strings.TrimPrefix(path, "../"), text, tree, lines})
		return err
	})
	if err != nil {
		t.Fatal(err)
	}
	if len(out) == 0 {
		t.Fatal("no files of the program were found")
	}
	return out
}

func TestLayout(t *testing.T) {
	for _, f := range programFiles(t) {
		if want, err := format.Source(f.text); err != nil || !bytes.Equal(want, f.text) {
			t.Errorf("%s: not in gofmt's layout", f.name)
		}
	}
}

func TestImports(t *testing.T) {
	for _, f := range programFiles(t) {
		for _, i := range f.tree.Imports {
			path := strings.Trim(i.Path.Value, `"`)
			if !strings.HasPrefix(path, "wayfare/") && !strings.Contains(library, " "+path+" ") {
				t.Errorf("%s imports %s", f.name, path)
			}
		}
		ast.Inspect(f.tree, func(n ast.Node) bool {
			if s, ok := n.(*ast.SelectorExpr); ok {
				if x, ok := s.X.(*ast.Ident); ok && x.Name == "sync" && x.Obj == nil && !strings.Contains(syncNames, " "+s.Sel.Name+" ") {
					t.Errorf("%s uses sync.%s", f.name, s.Sel.Name)
				}
			}
			return true
		})
	}
}

func TestNoLinesForTheCompiler(t *testing.T) {
	for _, f := range programFiles(t) {
		for _, g := range f.tree.Comments {
			for _, c := range g.List {
				if strings.HasPrefix(c.Text, "//go:") || strings.HasPrefix(c.Text, "// +build") {
					t.Errorf("%s: %s", f.name, c.Text)
				}
			}
		}
	}
}

func TestFunctionsAreSmall(t *testing.T) {
	for _, f := range programFiles(t) {
		for _, d := range f.tree.Decls {
			if x, ok := d.(*ast.FuncDecl); ok {
				if n := f.lines.Position(x.End()).Line - f.lines.Position(x.Pos()).Line + 1; n > mostLines {
					t.Errorf("%s: %s has %d lines", f.name, x.Name.Name, n)
				}
			}
		}
	}
}

func TestPackageVariables(t *testing.T) {
	for _, f := range programFiles(t) {
		for _, d := range f.tree.Decls {
			g, ok := d.(*ast.GenDecl)
			if !ok || g.Tok != token.VAR {
				continue
			}
			for _, s := range g.Specs {
				v := s.(*ast.ValueSpec)
				if len(v.Values) != len(v.Names) {
					t.Errorf("%s: %s has no value of its own", f.name, v.Names[0].Name)
					continue
				}
				for i, name := range v.Names {
					if full := f.tree.Name.Name + "." + name.Name; !strings.Contains(startUp, " "+full+" ") && !writtenOut(v.Values[i]) {
						t.Errorf("%s: %s is no table that is written out", f.name, full)
					}
				}
			}
		}
	}
}

// TestStartUpFunctions: func init stands only where the document asks for it.
func TestStartUpFunctions(t *testing.T) {
	for _, f := range programFiles(t) {
		for _, d := range f.tree.Decls {
			if x, ok := d.(*ast.FuncDecl); ok && x.Recv == nil && x.Name.Name == "init" && f.tree.Name.Name != "job" {
				t.Errorf("%s has a func init", f.name)
			}
		}
	}
}

// writtenOut tells whether a value stands where it is declared, or is an error made by errors.New.
func writtenOut(e ast.Expr) bool {
	switch x := e.(type) {
	case *ast.CallExpr:
		s, ok := x.Fun.(*ast.SelectorExpr)
		if !ok || s.Sel.Name != "New" {
			return false
		}
		p, ok := s.X.(*ast.Ident)
		return ok && p.Name == "errors"
	case *ast.CompositeLit:
		_, isMap := x.Type.(*ast.MapType)
		return !isMap && !hasCode(x)
	}
	return false
}

// hasCode tells whether a table calls or holds a function.
func hasCode(e ast.Expr) bool {
	found := false
	ast.Inspect(e, func(n ast.Node) bool {
		switch n.(type) {
		case *ast.CallExpr, *ast.FuncLit, *ast.FuncType:
			found = true
		}
		return !found
	})
	return found
}
