// Package rules tests that the program keeps to the rules of its language: which packages it
// imports, how long its functions are, and what stands at package level.
package rules

import (
	"go/ast"
	"go/parser"
	"go/token"
	"io/fs"
	"path/filepath"
	"slices"
	"strconv"
	"strings"
	"testing"
)

// maxLines is the greatest number of lines of a function.
const maxLines = 60

// allowed contains the packages of the standard library that the program may import.
func allowed() []string {
	return []string{"bytes", "cmp", "container/heap", "errors", "iter", "maps", "math", "math/bits", "slices", "sort", "strconv", "strings", "sync",
		"sync/atomic", "unicode", "unicode/utf8"}
}

// program calls check for each file of the program; tests are not part of it.
func program(t *testing.T, check func(path string, set *token.FileSet, file *ast.File)) {
	set := token.NewFileSet()
	err := filepath.WalkDir("..", func(path string, d fs.DirEntry, err error) error {
		if err != nil {
			return err
		}
		if d.IsDir() && d.Name() == "sharedtests" {
			return fs.SkipDir
		}
		if d.IsDir() || !strings.HasSuffix(path, ".go") || strings.HasSuffix(path, "_test.go") {
			return nil
		}
		file, err := parser.ParseFile(set, path, nil, parser.ParseComments)
		if err == nil {
			check(path, set, file)
		}
		return err
	})
	if err != nil {
		t.Fatal(err)
	}
}

func TestImports(t *testing.T) {
	program(t, func(path string, _ *token.FileSet, file *ast.File) {
		for _, i := range file.Imports {
			name, _ := strconv.Unquote(i.Path.Value)
			if !strings.HasPrefix(name, "dicebox/") && !slices.Contains(allowed(), name) {
				t.Errorf("%s imports %s", path, name)
			}
		}
	})
}

func TestFunctions(t *testing.T) {
	program(t, func(path string, set *token.FileSet, file *ast.File) {
		for _, d := range file.Decls {
			f, ok := d.(*ast.FuncDecl)
			if !ok {
				continue
			}
			lines := set.Position(f.End()).Line - set.Position(f.Pos()).Line + 1
			if lines > maxLines {
				t.Errorf("%s: %s has %d lines", path, f.Name.Name, lines)
			}
		}
	})
}

func TestDirectives(t *testing.T) {
	program(t, func(path string, _ *token.FileSet, file *ast.File) {
		for _, group := range file.Comments {
			for _, c := range group.List {
				if strings.HasPrefix(c.Text, "//go:") || strings.HasPrefix(c.Text, "// +build") {
					t.Errorf("%s: %s", path, c.Text)
				}
			}
		}
	})
}

// TestVariables: the variables at package level are tables of literals and errors.
func TestVariables(t *testing.T) {
	program(t, func(path string, _ *token.FileSet, file *ast.File) {
		for _, d := range file.Decls {
			group, ok := d.(*ast.GenDecl)
			if !ok || group.Tok != token.VAR {
				continue
			}
			for _, s := range group.Specs {
				for _, name := range s.(*ast.ValueSpec).Names {
					if name.Name != "_" && !isTable(s.(*ast.ValueSpec)) {
						t.Errorf("%s: variable %s", path, name.Name)
					}
				}
			}
		}
	})
}

// isTable reports whether a variable has values that are literals or errors of one string.
func isTable(s *ast.ValueSpec) bool {
	for _, v := range s.Values {
		ast.Inspect(v, func(n ast.Node) bool {
			switch x := n.(type) {
			case *ast.MapType, *ast.FuncLit:
				v = nil
			case *ast.CallExpr:
				if f, ok := x.Fun.(*ast.SelectorExpr); !ok || f.Sel.Name != "New" {
					v = nil
				}
			}
			return true
		})
		if v == nil {
			return false
		}
	}
	return len(s.Values) == len(s.Names)
}
