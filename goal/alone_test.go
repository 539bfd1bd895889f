package goal_test

import (
	"go/ast"
	"go/parser"
	"go/token"
	"os"
	"slices"
	"strings"
	"testing"
)

// files: the package's own, without its tests.
func files(t *testing.T) []*ast.File {
	t.Helper()
	l, err := os.ReadDir(".")
	if err != nil {
		t.Fatal(err)
	}
	var out []*ast.File
	for _, f := range l {
		if !strings.HasSuffix(f.Name(), ".go") || strings.HasSuffix(f.Name(), "_test.go") {
			continue
		}
		tree, err := parser.ParseFile(token.NewFileSet(), f.Name(), nil, 0)
		if err != nil {
			t.Fatal(err)
		}
		out = append(out, tree)
	}
	return out
}

// TestStandsOn: of the project it knows api, term and clause alone.
func TestStandsOn(t *testing.T) {
	for _, f := range files(t) {
		for _, x := range f.Imports {
			path := strings.Trim(x.Path.Value, `"`)
			if strings.HasPrefix(path, "hearsay") && !slices.Contains(texts("hearsay/api", "hearsay/term", "hearsay/clause"), path) {
				t.Errorf("it imports %s", path)
			}
		}
	}
}

// TestNothingMore: two calls, and nothing is kept at the package's level.
func TestNothingMore(t *testing.T) {
	var calls []string
	for _, f := range files(t) {
		for _, d := range f.Decls {
			switch x := d.(type) {
			case *ast.FuncDecl:
				if x.Name.IsExported() {
					calls = append(calls, x.Name.Name)
				}
			case *ast.GenDecl:
				if x.Tok == token.VAR {
					t.Error("a variable at the package's level")
				}
				for _, s := range x.Specs {
					if y, ok := s.(*ast.TypeSpec); ok && y.Name.IsExported() {
						calls = append(calls, y.Name.Name)
					}
				}
			}
		}
	}
	slices.Sort(calls)
	if !slices.Equal(calls, texts("Ask", "Tables")) {
		t.Errorf("the package gives out %q", calls)
	}
}
