// Package rules has no code of the program: its tests hold the program's text against the rules of the language that can be told from it.
package rules

import (
	"bytes"
	"go/ast"
	"go/format"
	"go/parser"
	"go/token"
	"os"
	"path/filepath"
	"strconv"
	"strings"
	"testing"
)

const (
	root   = ".."
	module = "stagepost"
	shared = "sharedtests" // laid beside the program by .ci/run; not of the program
	lines  = 60            // of a function
)

var library = strings.Fields("bytes cmp container/heap errors iter maps math math/bits slices sort strconv strings sync sync/atomic unicode unicode/utf8")

// source is a Go file of the program, no test.
type source struct {
	path string
	text []byte
	file *ast.File
}

// sources are all of them, with what they stand in.
func sources(t *testing.T) ([]source, *token.FileSet) {
	t.Helper()
	set := token.NewFileSet()
	paths, err := filepath.Glob(filepath.Join(root, "*", "*.go"))
	if err != nil {
		t.Fatal(err)
	}
	var out []source
	for _, path := range paths {
		if strings.HasSuffix(path, "_test.go") || filepath.Base(filepath.Dir(path)) == shared {
			continue
		}
		text, err := os.ReadFile(path)
		if err != nil {
			t.Fatal(err)
		}
		file, err := parser.ParseFile(set, path, text, parser.ParseComments)
		if err != nil {
			t.Fatal(err)
		}
		out = append(out, source{path, text, file})
	}
	if len(out) == 0 {
		t.Fatal("no source was found")
	}
	return out, set
}

func TestImports(t *testing.T) {
	allowed := map[string]bool{}
	for _, path := range library {
		allowed[path] = true
	}
	all, _ := sources(t)
	for _, s := range all {
		for _, spec := range s.file.Imports {
			path, _ := strconv.Unquote(spec.Path.Value)
			if !allowed[path] && !strings.HasPrefix(path, module+"/") {
				t.Errorf("%s imports %s", s.path, path)
			}
		}
	}
}

func TestLayout(t *testing.T) {
	all, _ := sources(t)
	for _, s := range all {
		if laid, err := format.Source(s.text); err != nil || !bytes.Equal(laid, s.text) {
			t.Errorf("%s has not gofmt's layout", s.path)
		}
	}
}

func TestNoWordsToTheCompiler(t *testing.T) {
	all, _ := sources(t)
	for _, s := range all {
		for _, group := range s.file.Comments {
			for _, c := range group.List {
				if strings.HasPrefix(c.Text, "//go:") || strings.HasPrefix(c.Text, "// +build") {
					t.Errorf("%s has a line %s", s.path, c.Text)
				}
			}
		}
	}
}

func TestFunctionsAreSmall(t *testing.T) {
	all, set := sources(t)
	for _, s := range all {
		for _, d := range s.file.Decls {
			f, ok := d.(*ast.FuncDecl)
			if ok && set.Position(f.End()).Line-set.Position(f.Pos()).Line >= lines {
				t.Errorf("%s: %s has more than %d lines", s.path, f.Name.Name, lines)
			}
		}
	}
}

func TestNoOtherFilesBesideTheGoFiles(t *testing.T) {
	all, _ := sources(t)
	for _, s := range all {
		beside, err := os.ReadDir(filepath.Dir(s.path))
		if err != nil {
			t.Fatal(err)
		}
		for _, f := range beside {
			if !strings.HasSuffix(f.Name(), ".go") && f.Name() != "testdata" {
				t.Errorf("%s stands beside %s", f.Name(), s.path)
			}
		}
	}
}
