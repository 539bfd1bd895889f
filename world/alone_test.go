package world_test

import (
	"go/ast"
	"go/parser"
	"go/token"
	"os"
	"reflect"
	"slices"
	"strings"
	"testing"

	"hearsay/world"
)

// files: the package's own, without its tests.
func files(t *testing.T) []*ast.File {
	t.Helper()
	l, err := os.ReadDir(".")
	if err != nil {
		t.Fatal(err)
	}
	var out []*ast.File
	for _, f := range l {
		if !strings.HasSuffix(f.Name(), ".go") || strings.HasSuffix(f.Name(), "_test.go") {
			continue
		}
		tree, err := parser.ParseFile(token.NewFileSet(), f.Name(), nil, 0)
		if err != nil {
			t.Fatal(err)
		}
		out = append(out, tree)
	}
	return out
}

// TestStandsOn: api and the layers' packages below it, and errors, maps, slices, sort.
func TestStandsOn(t *testing.T) {
	known := texts("errors", "maps", "slices", "sort")
	for _, layer := range texts("api", "digest", "term", "clause", "tokens", "syntax", "codec", "rel", "base", "plan", "eval", "proof", "check", "why", "subsume", "imply", "goal", "upkeep", "keys", "cert", "context", "bundle", "journal", "wire") {
		known = append(known, "hearsay/"+layer)
	}
	for _, f := range files(t) {
		for _, x := range f.Imports {
			if path := strings.Trim(x.Path.Value, `"`); !slices.Contains(known, path) {
				t.Errorf("it imports %s", path)
			}
		}
	}
}

// calls: those that the chapter lists, of a world.
func calls() []string { return texts("Certs", "Do", "Journal", "Names", "Own", "Waiting") }

// TestNothingMore: the calls that the chapter lists (an error value has its text beside them), and nothing is kept at the package's level.
func TestNothingMore(t *testing.T) {
	var given []string
	for _, f := range files(t) {
		for _, d := range f.Decls {
			switch x := d.(type) {
			case *ast.FuncDecl:
				if x.Name.IsExported() && x.Name.Name != "Error" {
					given = append(given, x.Name.Name)
				}
			case *ast.GenDecl:
				if x.Tok == token.VAR || x.Tok == token.CONST {
					t.Error("a variable or a constant at the package's level")
				}
				for _, s := range x.Specs {
					if y, ok := s.(*ast.TypeSpec); ok && y.Name.IsExported() {
						given = append(given, y.Name.Name)
					}
				}
			}
		}
	}
	want := append(calls(), "New", "Play", "World")
	slices.Sort(want)
	slices.Sort(given)
	if !slices.Equal(given, want) {
		t.Errorf("the package gives out %q", given)
	}
}

// TestWorldGivesNothingMore: no field, and no method of a part of it.
func TestWorldGivesNothingMore(t *testing.T) {
	x := reflect.TypeFor[*world.World]()
	var given []string
	for i := range x.NumMethod() {
		given = append(given, x.Method(i).Name)
	}
	for _, f := range reflect.VisibleFields(x.Elem()) {
		if f.IsExported() {
			given = append(given, f.Name)
		}
	}
	if !slices.Equal(given, calls()) {
		t.Errorf("a world gives out %q", given)
	}
}

// TestTableOfMethodExpressions: every kind's row names a method of the world.
func TestTableOfMethodExpressions(t *testing.T) {
	rows := 0
	for _, f := range files(t) {
		ast.Inspect(f, func(n ast.Node) bool {
			row, ok := n.(*ast.KeyValueExpr)
			if !ok {
				return true
			}
			if kind, ok := row.Key.(*ast.SelectorExpr); ok && strings.HasPrefix(kind.Sel.Name, "Do") {
				if method, ok := row.Value.(*ast.SelectorExpr); ok {
					if _, ok := method.X.(*ast.ParenExpr); ok {
						rows++
					}
				}
			}
			return true
		})
	}
	if rows != 24 {
		t.Errorf("Ways: %d kinds stand in a table with a method expression", rows)
	}
}
