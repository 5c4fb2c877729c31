package tests

import (
	"bytes"
	"go/ast"
	"go/format"
	"go/parser"
	"go/token"
	"os"
	"path/filepath"
	"strconv"
	"strings"
	"testing"
)

const allowedImports = " bytes cmp container/heap errors iter maps math math/bits slices sort strconv strings sync sync/atomic unicode unicode/utf8 "

// The language page: which packages are imported, how long a function is, gofmt's layout, no line for the compiler.
func TestProgramKeepsToItsLanguage(t *testing.T) {
	files, err := filepath.Glob("../impl/*")
	if err != nil || len(files) == 0 {
		t.Fatal(files, err)
	}
	for _, name := range files {
		if !strings.HasSuffix(name, ".go") {
			t.Errorf("%s is no Go file", name)
			continue
		}
		text, err := os.ReadFile(name)
		if err != nil {
			t.Fatal(err)
		}
		laidOut, err := format.Source(text)
		if err != nil || !bytes.Equal(laidOut, text) {
			t.Errorf("%s is not in gofmt's layout: %v", name, err)
		}
		if bytes.Contains(text, []byte("//go:")) || bytes.Contains(text, []byte("// +build")) {
			t.Errorf("%s has a line for the compiler", name)
		}
		looksAtFile(t, name, text)
	}
}

func looksAtFile(t *testing.T, name string, text []byte) {
	set := token.NewFileSet()
	file, err := parser.ParseFile(set, name, text, parser.SkipObjectResolution)
	if err != nil {
		t.Fatal(err)
	}
	for _, i := range file.Imports {
		path, err := strconv.Unquote(i.Path.Value)
		if err != nil || !strings.Contains(allowedImports, " "+path+" ") {
			t.Errorf("%s imports %s", name, i.Path.Value)
		}
	}
	ast.Inspect(file, func(n ast.Node) bool {
		if f, ok := n.(*ast.FuncDecl); ok {
			if lines := set.Position(f.End()).Line - set.Position(f.Pos()).Line + 1; lines > 60 {
				t.Errorf("%s: %s has %d lines", name, f.Name.Name, lines)
			}
		}
		if s, ok := n.(*ast.SelectorExpr); ok {
			if x, ok := s.X.(*ast.Ident); ok && x.Name == "iter" && (s.Sel.Name == "Pull" || s.Sel.Name == "Pull2") {
				t.Errorf("%s takes iter.%s", name, s.Sel.Name)
			}
		}
		return true
	})
}
