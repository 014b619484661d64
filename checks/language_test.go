package checks

import (
	"bytes"
	"go/ast"
	"go/format"
	"go/parser"
	"go/token"
	"io/fs"
	"os"
	"path/filepath"
	"slices"
	"strconv"
	"strings"
	"testing"
)

// library is what the program's language has of Go's library.
var library = []string{"bytes", "cmp", "errors", "iter", "maps", "math", "math/big", "math/bits", "slices", "sort", "strconv", "strings", "sync", "sync/atomic", "unicode", "unicode/utf8"}

// longest is how many lines a function may have.
const longest = 60

// TestLanguage: the program's files keep to those of the language's rules that can be read off a file.
func TestLanguage(t *testing.T) {
	for _, path := range programFiles(t) {
		src, err := os.ReadFile(path)
		if err != nil {
			t.Fatal(err)
		}
		if laid, err := format.Source(src); err != nil || !bytes.Equal(laid, src) {
			t.Errorf("%s: not in gofmt's layout: %v", path, err)
		}
		set := token.NewFileSet()
		file, err := parser.ParseFile(set, path, src, parser.ParseComments)
		if err != nil {
			t.Fatal(err)
		}
		checkImports(t, path, file)
		checkLines(t, path, set, file)
	}
}

// programFiles lists the Go files that are neither tests nor laid beside the project.
func programFiles(t *testing.T) []string {
	var paths []string
	err := filepath.WalkDir("..", func(path string, d fs.DirEntry, err error) error {
		switch {
		case err != nil:
			return err
		case d.IsDir() && (d.Name() == "sharedtests" || d.Name() == ".git"):
			return filepath.SkipDir
		case !d.IsDir() && strings.HasSuffix(path, ".go") && !strings.HasSuffix(path, "_test.go"):
			paths = append(paths, path)
		}
		return nil
	})
	if err != nil || len(paths) == 0 {
		t.Fatal("no files of the program: ", err)
	}
	return paths
}

func checkImports(t *testing.T, path string, file *ast.File) {
	for _, i := range file.Imports {
		name, err := strconv.Unquote(i.Path.Value)
		if err != nil || !strings.HasPrefix(name, "phrases/") && !slices.Contains(library, name) {
			t.Errorf("%s: import of %s, %v", path, name, err)
		}
	}
}

func checkLines(t *testing.T, path string, set *token.FileSet, file *ast.File) {
	for _, d := range file.Decls {
		f, ok := d.(*ast.FuncDecl)
		if ok && set.Position(f.End()).Line-set.Position(f.Pos()).Line >= longest {
			t.Errorf("%s: function %s is too long", path, f.Name.Name)
		}
	}
	for _, group := range file.Comments {
		for _, c := range group.List {
			if strings.HasPrefix(c.Text, "//go:") || strings.HasPrefix(c.Text, "// +build") {
				t.Errorf("%s: the line %s", path, c.Text)
			}
		}
	}
}
