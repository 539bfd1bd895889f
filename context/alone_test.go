package context_test

import (
	"go/ast"
	"go/parser"
	"go/token"
	"os"
	"reflect"
	"slices"
	"strings"
	"testing"

	"hearsay/context"
)

// files: the package's own, without its tests.
func files(t *testing.T) []*ast.File {
	t.Helper()
	l, err := os.ReadDir(".")
	if err != nil {
		t.Fatal(err)
	}
	var out []*ast.File
	for _, f := range l {
		if !strings.HasSuffix(f.Name(), ".go") || strings.HasSuffix(f.Name(), "_test.go") {
			continue
		}
		tree, err := parser.ParseFile(token.NewFileSet(), f.Name(), nil, 0)
		if err != nil {
			t.Fatal(err)
		}
		out = append(out, tree)
	}
	return out
}

// TestStandsOn: of the project it knows no layer above it.
func TestStandsOn(t *testing.T) {
	above := texts("hearsay/bundle", "hearsay/journal", "hearsay/wire", "hearsay/world", "hearsay/script", "hearsay/run")
	for _, f := range files(t) {
		for _, x := range f.Imports {
			if path := strings.Trim(x.Path.Value, `"`); slices.Contains(above, path) {
				t.Errorf("it imports %s", path)
			}
		}
	}
}

// calls: those that the chapter lists, of a context.
func calls() []string {
	return texts("Ask", "Assert", "Certs", "Clauses", "Export", "Forget", "Import", "Name", "News", "Own", "Play", "Query", "Retract", "Watch")
}

// TestNothingMore: the calls that the chapter lists (an error value has its text beside them), and nothing is kept at the package's level.
func TestNothingMore(t *testing.T) {
	var given []string
	for _, f := range files(t) {
		for _, d := range f.Decls {
			switch x := d.(type) {
			case *ast.FuncDecl:
				if x.Name.IsExported() && x.Name.Name != "Error" {
					given = append(given, x.Name.Name)
				}
			case *ast.GenDecl:
				if x.Tok == token.VAR {
					t.Error("a variable at the package's level")
				}
				for _, s := range x.Specs {
					if y, ok := s.(*ast.TypeSpec); ok && y.Name.IsExported() {
						given = append(given, y.Name.Name)
					}
				}
			}
		}
	}
	want := append(calls(), "New", "Context")
	slices.Sort(want)
	slices.Sort(given)
	if !slices.Equal(given, want) {
		t.Errorf("the package gives out %q", given)
	}
}

// TestContextGivesNothingMore: no field, and no method of a part of it; and a part of it is embedded.
func TestContextGivesNothingMore(t *testing.T) {
	x := reflect.TypeFor[*context.Context]()
	var given []string
	for i := range x.NumMethod() {
		given = append(given, x.Method(i).Name)
	}
	embeds := false
	for _, f := range reflect.VisibleFields(x.Elem()) {
		if f.IsExported() {
			given = append(given, f.Name)
		}
		embeds = embeds || f.Anonymous
	}
	if !slices.Equal(given, calls()) || !embeds {
		t.Errorf("a context gives out %q", given)
	}
}
