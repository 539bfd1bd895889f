package run_test

import (
	"go/ast"
	"go/parser"
	"go/token"
	"os"
	"slices"
	"strings"
	"testing"
)

// files: the package's own, without its tests.
func files(t *testing.T) []*ast.File {
	t.Helper()
	l, err := os.ReadDir(".")
	if err != nil {
		t.Fatal(err)
	}
	var out []*ast.File
	for _, f := range l {
		if !strings.HasSuffix(f.Name(), ".go") || strings.HasSuffix(f.Name(), "_test.go") {
			continue
		}
		tree, err := parser.ParseFile(token.NewFileSet(), f.Name(), nil, 0)
		if err != nil {
			t.Fatal(err)
		}
		out = append(out, tree)
	}
	return out
}

// layers: those below.
func layers() []string {
	return texts("digest", "term", "clause", "tokens", "syntax", "codec", "rel", "base", "plan", "eval", "proof", "check", "why", "subsume", "imply", "goal", "upkeep", "keys", "cert", "context", "bundle", "journal", "wire", "world", "script")
}

// TestStandsOn: it knows api, the layers' packages, strconv and strings, nothing else.
func TestStandsOn(t *testing.T) {
	for _, f := range files(t) {
		for _, x := range f.Imports {
			path := strings.Trim(x.Path.Value, `"`)
			layer, ours := strings.CutPrefix(path, "hearsay/")
			if ours && layer != "api" && !slices.Contains(layers(), layer) || !ours && path != "strconv" && path != "strings" {
				t.Errorf("it imports %s", path)
			}
		}
	}
}

// TestNothingMore: the two calls that the chapter lists; and no variable, so that nothing can be kept.
func TestNothingMore(t *testing.T) {
	var given []string
	for _, f := range files(t) {
		for _, d := range f.Decls {
			switch x := d.(type) {
			case *ast.FuncDecl:
				if x.Name.IsExported() {
					given = append(given, x.Name.Name)
				}
			case *ast.GenDecl:
				if x.Tok == token.VAR {
					t.Error("a variable at the package's level")
				}
				for _, s := range x.Specs {
					if y, ok := s.(*ast.TypeSpec); ok && y.Name.IsExported() {
						given = append(given, y.Name.Name)
					}
					if y, ok := s.(*ast.ValueSpec); ok && y.Names[0].IsExported() {
						given = append(given, y.Names[0].Name)
					}
				}
			}
		}
	}
	slices.Sort(given)
	if !slices.Equal(given, texts("Run", "Tell")) {
		t.Errorf("the package gives out %q", given)
	}
}

// interfaces: the package's own, with the names of their methods.
func interfaces(t *testing.T) map[string][]string {
	t.Helper()
	out := map[string][]string{}
	for _, f := range files(t) {
		ast.Inspect(f, func(n ast.Node) bool {
			if x, ok := n.(*ast.TypeSpec); ok {
				if y, ok := x.Type.(*ast.InterfaceType); ok {
					for _, m := range y.Methods.List {
						out[x.Name.Name] = append(out[x.Name.Name], m.Names[0].Name)
					}
				}
			}
			return true
		})
	}
	return out
}

// TestOneInterface: with one method, for a line, by which all sorts of lines go.
func TestOneInterface(t *testing.T) {
	all := interfaces(t)
	if len(all) != 1 {
		t.Fatalf("Ways: the package's interfaces are %v", all)
	}
	for name, methods := range all {
		if len(methods) != 1 {
			t.Fatalf("Ways: the interface %s has the methods %q", name, methods)
		}
		calls := 0
		for _, f := range files(t) {
			ast.Inspect(f, func(n ast.Node) bool {
				if x, ok := n.(*ast.CallExpr); ok {
					if s, ok := x.Fun.(*ast.SelectorExpr); ok && s.Sel.Name == methods[0] {
						calls++
					}
				}
				return true
			})
		}
		if calls < 4 {
			t.Errorf("Ways: only %d places tell a line through the interface", calls)
		}
	}
}
