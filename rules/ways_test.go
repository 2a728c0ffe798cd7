package rules

import (
	"go/ast"
	"go/importer"
	"go/parser"
	"go/token"
	"go/types"
	"testing"
)

// ways is those of the language's ways that a package leans on, each with one place of it.
type ways struct {
	types.Info
	fset  *token.FileSet
	found map[string]string
}

// look finds the ways of a package.
func look(t *testing.T, layer string) map[string]string {
	t.Helper()
	w := ways{fset: token.NewFileSet(), found: map[string]string{}}
	w.Types = map[ast.Expr]types.TypeAndValue{}
	w.Uses = map[*ast.Ident]types.Object{}
	w.Selections = map[*ast.SelectorExpr]*types.Selection{}
	var files []*ast.File
	for _, name := range sources(t, layer) {
		f, err := parser.ParseFile(w.fset, name, nil, 0)
		if err != nil {
			t.Fatal(err)
		}
		files = append(files, f)
	}
	c := types.Config{Importer: importer.ForCompiler(w.fset, "source", nil)}
	if _, err := c.Check("freshet/"+layer, w.fset, files, &w.Info); err != nil {
		t.Fatal(err)
	}
	for _, f := range files {
		called := map[ast.Expr]bool{}
		ast.Inspect(f, func(n ast.Node) bool {
			if x, ok := n.(*ast.CallExpr); ok {
				called[ast.Unparen(x.Fun)] = true
			}
			w.node(n, called)
			return true
		})
	}
	return w.found
}

func (w *ways) node(n ast.Node, called map[ast.Expr]bool) {
	switch x := n.(type) {
	case *ast.CallExpr:
		w.call(x)
	case *ast.Ident:
		if w.Uses[x] == types.Universe.Lookup("iota") {
			w.add("iota", n)
		}
	case *ast.BinaryExpr:
		if x.Op == token.EQL || x.Op == token.NEQ {
			switch w.under(x.X).(type) {
			case *types.Array:
				w.add("array-compared", n)
			case *types.Struct:
				w.add("struct-compared", n)
			}
		}
	case *ast.RangeStmt:
		switch y := w.under(x.X).(type) {
		case *types.Signature:
			w.add("range-function", n)
		case *types.Basic:
			if y.Info()&types.IsInteger != 0 {
				w.add("range-integer", n)
			}
		}
	case *ast.FuncLit:
		w.add("closure", n)
	case *ast.DeferStmt:
		w.add("defer", n)
	case *ast.BranchStmt:
		if x.Tok == token.CONTINUE && x.Label != nil {
			w.add("label", n)
		}
		if x.Tok == token.FALLTHROUGH {
			w.add("fallthrough", n)
		}
	case *ast.IndexExpr:
		if _, ok := w.under(x.X).(*types.Map); ok {
			w.add("map", n)
		}
	case *ast.FuncDecl:
		if x.Type.TypeParams != nil {
			w.add("generic-function", n)
		}
	case *ast.TypeSpec:
		if x.TypeParams != nil {
			w.add("generic-type", n)
		}
	case *ast.SliceExpr:
		if x.Slice3 {
			w.add("three-index", n)
		}
	case *ast.StructType:
		for _, f := range x.Fields.List {
			if len(f.Names) == 0 {
				w.add("embedding", n)
			}
		}
	case *ast.SelectorExpr:
		if _, ok := w.under(x).(*types.Array); ok {
			w.add("array", n)
		}
		s := w.Selections[x]
		if s == nil {
			return
		}
		if len(s.Index()) > 1 {
			w.add("promoted", n)
			if s.Kind() == types.MethodVal {
				w.add("promoted-method", n)
			}
		}
		if s.Kind() == types.MethodVal && !called[x] {
			w.add("method-value", n)
		}
		if s.Kind() == types.MethodExpr {
			w.add("method-expression", n)
		}
	}
}

// under is the underlying type of an expression, if it has one.
func (w *ways) under(x ast.Expr) types.Type {
	if t := w.Types[x].Type; t != nil {
		return t.Underlying()
	}
	return nil
}

// call: several parts, or a list of them, are handed to a variadic function; or a list is copied.
func (w *ways) call(x *ast.CallExpr) {
	if f, ok := x.Fun.(*ast.Ident); ok && w.Uses[f] == types.Universe.Lookup("copy") {
		w.add("copy", x)
	}
	f, ok := w.Types[x.Fun].Type.(*types.Signature)
	if ok && f.Variadic() && (len(x.Args) > f.Params().Len() || x.Ellipsis.IsValid()) {
		w.add("variadic", x)
	}
}

func (w *ways) add(word string, n ast.Node) {
	w.found[word] = w.fset.Position(n.Pos()).String()
}

// Ways
func TestWays(t *testing.T) {
	for layer, words := range map[string][]string{
		"pack":   {"variadic", "method-value"},
		"disk":   {"variadic", "embedding", "promoted-method"},
		"value":  {"variadic", "iota"},
		"moment": {"variadic", "array", "array-compared"},
		"diff":   {"generic-function", "generic-type", "embedding", "promoted-method"},
		"copies": {"copy"}, // for diff and batch
		"batch":  {"embedding", "promoted", "three-index"},
		"spine":  {"embedding", "promoted", "range-function"},
		"expr":   {"embedding", "promoted-method", "struct-compared"},
		"plan":   {"embedding", "promoted-method"},
		"mean":   {"method-expression", "closure"},
		"linear": {"embedding", "promoted-method", "map"},
		"join":   {"embedding", "promoted-method", "label"},
		"group":  {"embedding", "promoted-method"},
		"graph":  {"embedding", "promoted-method", "defer", "closure"},
		"flow":   {"embedding", "promoted", "closure"},
		"front":  {"range-integer", "closure"},
		"input":  {"embedding", "promoted-method", "variadic", "fallthrough", "range-function"},
		"engine": {"embedding", "promoted"},
		"serve":  {"embedding", "promoted", "variadic"},
		"world":  {"embedding", "promoted", "closure"},
	} {
		found := look(t, layer)
		for _, word := range words {
			if found[word] == "" {
				t.Errorf("%s: no %s", layer, word)
			}
		}
	}
}
