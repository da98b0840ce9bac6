// Package rules checks that the program keeps to the rules of its language that a look at the text shows.
package rules

import (
	"bytes"
	"go/ast"
	"go/format"
	"go/parser"
	"go/token"
	"io/fs"
	"os"
	"path/filepath"
	"slices"
	"strconv"
	"strings"
	"testing"
)

// mostLines is how many lines a function may have ("about 60").
const mostLines = 65

// allowed lists what the program may import beside its own packages.
func allowed() []string {
	return []string{"bytes", "cmp", "container/heap", "errors", "iter", "maps", "math", "math/bits", "slices", "sort",
		"strconv", "strings", "sync", "sync/atomic", "unicode", "unicode/utf8"}
}

// sources lists the files of the program, without tests.
func sources(t *testing.T) []string {
	var out []string
	err := filepath.WalkDir("..", func(path string, d fs.DirEntry, err error) error {
		if err != nil {
			return err
		}
		if d.IsDir() && path != ".." && (strings.HasPrefix(d.Name(), ".") || d.Name() == "sharedtests") {
			return fs.SkipDir
		}
		if strings.HasSuffix(path, ".go") && !strings.HasSuffix(path, "_test.go") {
			out = append(out, path)
		}
		return nil
	})
	if err != nil || len(out) < 35 {
		t.Fatal(len(out), err)
	}
	return out
}

func TestSources(t *testing.T) {
	for _, path := range sources(t) {
		text, err := os.ReadFile(path)
		if err != nil {
			t.Fatal(err)
		}
		if laid, err := format.Source(text); err != nil || !bytes.Equal(laid, text) {
			t.Errorf("%s: not in gofmt's layout (%v)", path, err)
		}
		fset := token.NewFileSet()
		file, err := parser.ParseFile(fset, path, text, parser.ParseComments)
		if err != nil {
			t.Fatal(err)
		}
		for _, i := range file.Imports {
			name, _ := strconv.Unquote(i.Path.Value)
			if !strings.HasPrefix(name, "virgation/") && !slices.Contains(allowed(), name) {
				t.Errorf("%s: imports %s", path, name)
			}
		}
		for _, g := range file.Comments {
			for _, c := range g.List {
				if strings.HasPrefix(c.Text, "//go:") || strings.HasPrefix(c.Text, "// +build") {
					t.Errorf("%s: %s", path, c.Text)
				}
			}
		}
		for _, d := range file.Decls {
			f, ok := d.(*ast.FuncDecl)
			if ok && fset.Position(f.End()).Line-fset.Position(f.Pos()).Line >= mostLines {
				t.Errorf("%s: %s is too long", path, f.Name.Name)
			}
		}
	}
}
