package rules

import (
	"bytes"
	"go/ast"
	"go/format"
	"go/parser"
	"go/token"
	"os"
	"path/filepath"
	"slices"
	"strconv"
	"strings"
	"testing"
)

const (
	root     = ".."
	maxLines = 60
)

// imports is what a package of the program may import of the library.
const imports = " bytes cmp container/heap errors iter maps math math/bits slices sort strconv strings sync sync/atomic unicode unicode/utf8 "

// layers is the packages of the program: all folders with Go files but that of these tests and that of tests from elsewhere.
func layers(t *testing.T) []string {
	t.Helper()
	files, err := filepath.Glob(filepath.Join(root, "*", "*.go"))
	if err != nil || len(files) == 0 {
		t.Fatal("no packages:", err)
	}
	var l []string
	for _, f := range files {
		name := filepath.Base(filepath.Dir(f))
		if name != "rules" && name != "sharedtests" && !slices.Contains(l, name) {
			l = append(l, name)
		}
	}
	return l
}

// sources is the Go files of a package that are no tests.
func sources(t *testing.T, layer string) []string {
	t.Helper()
	files, err := filepath.Glob(filepath.Join(root, layer, "*.go"))
	if err != nil {
		t.Fatal(err)
	}
	return slices.DeleteFunc(files, func(f string) bool { return strings.HasSuffix(f, "_test.go") })
}

func TestLayers(t *testing.T) {
	l := layers(t)
	for name := range strings.FieldsSeq("api batch diff disk engine expr flow front graph group input join linear mean moment pack plan serve spine value world") {
		if !slices.Contains(l, name) {
			t.Errorf("no package %s", name)
		}
	}
}

func TestSources(t *testing.T) {
	for _, layer := range layers(t) {
		for _, name := range sources(t, layer) {
			text, err := os.ReadFile(name)
			if err != nil {
				t.Fatal(err)
			}
			if out, err := format.Source(text); err != nil || !bytes.Equal(out, text) {
				t.Errorf("%s: not as gofmt lays it out (%v)", name, err)
			}
			fset := token.NewFileSet()
			f, err := parser.ParseFile(fset, name, text, parser.ParseComments)
			if err != nil {
				t.Fatal(err)
			}
			lookImports(t, name, f)
			lookComments(t, name, f)
			lookFunctions(t, name, fset, f)
		}
	}
}

func lookImports(t *testing.T, name string, f *ast.File) {
	for _, x := range f.Imports {
		path, _ := strconv.Unquote(x.Path.Value)
		if !strings.HasPrefix(path, "freshet/") && !strings.Contains(imports, " "+path+" ") {
			t.Errorf("%s imports %s", name, path)
		}
	}
}

func lookComments(t *testing.T, name string, f *ast.File) {
	for _, g := range f.Comments {
		for _, c := range g.List {
			if strings.HasPrefix(c.Text, "//go:") || strings.HasPrefix(c.Text, "// +build") {
				t.Errorf("%s: %s", name, c.Text)
			}
		}
	}
}

func lookFunctions(t *testing.T, name string, fset *token.FileSet, f *ast.File) {
	for _, d := range f.Decls {
		if x, ok := d.(*ast.FuncDecl); ok {
			if n := fset.Position(x.End()).Line - fset.Position(x.Pos()).Line + 1; n > maxLines {
				t.Errorf("%s: %s has %d lines", name, x.Name.Name, n)
			}
		}
	}
}

// A layer calls package api, and of the others those that the document's map names; what is none of its layers (copies, first) it may call.
func TestCalls(t *testing.T) {
	for layer, calls := range map[string]string{
		"api":    "",
		"copies": "api",
		"first":  "api",
		"pack":   "api",
		"disk":   "api",
		"value":  "api pack",
		"moment": "api",
		"diff":   "api value moment",
		"batch":  "api value moment diff",
		"spine":  "api value moment diff batch",
		"expr":   "api value diff",
		"plan":   "api expr",
		"mean":   "api value diff expr plan",
		"linear": "api value moment diff mean",
		"join":   "api value moment diff spine linear",
		"group":  "api value moment diff spine mean linear join",
		"graph":  "api plan",
		"flow":   "api moment diff spine linear join group graph",
		"front":  "api moment diff graph spine flow",
		"input":  "api pack value diff expr plan",
		"engine": "api flow front graph input",
		"serve":  "api pack disk input engine",
		"world":  "api disk flow engine serve",
	} {
		for _, name := range sources(t, layer) {
			f, err := parser.ParseFile(token.NewFileSet(), name, nil, parser.ImportsOnly)
			if err != nil {
				t.Fatal(err)
			}
			for _, x := range f.Imports {
				path, _ := strconv.Unquote(x.Path.Value)
				own, ok := strings.CutPrefix(path, "freshet/")
				if ok && own != "copies" && own != "first" && !slices.Contains(strings.Fields(calls), own) {
					t.Errorf("%s imports %s", name, path)
				}
			}
		}
	}
}
