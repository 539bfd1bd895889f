package wire_test

import (
	"go/ast"
	"go/parser"
	"go/token"
	"os"
	"reflect"
	"slices"
	"strings"
	"testing"

	"hearsay/wire"
)

// files: the package's own, without its tests.
func files(t *testing.T) []*ast.File {
	t.Helper()
	l, err := os.ReadDir(".")
	if err != nil {
		t.Fatal(err)
	}
	var out []*ast.File
	for _, f := range l {
		if !strings.HasSuffix(f.Name(), ".go") || strings.HasSuffix(f.Name(), "_test.go") {
			continue
		}
		tree, err := parser.ParseFile(token.NewFileSet(), f.Name(), nil, 0)
		if err != nil {
			t.Fatal(err)
		}
		out = append(out, tree)
	}
	return out
}

// TestStandsOn: of the project it knows api alone, and slices of the library.
func TestStandsOn(t *testing.T) {
	for _, f := range files(t) {
		for _, x := range f.Imports {
			if path := strings.Trim(x.Path.Value, `"`); !slices.Contains(texts("hearsay/api", "slices"), path) {
				t.Errorf("it imports %s", path)
			}
		}
	}
}

// TestNothingMore: the calls that the chapter lists, and nothing is kept at the package's level.
func TestNothingMore(t *testing.T) {
	var given []string
	for _, f := range files(t) {
		for _, d := range f.Decls {
			switch x := d.(type) {
			case *ast.FuncDecl:
				given = append(given, exported(x.Name)...)
			case *ast.GenDecl:
				if x.Tok == token.VAR {
					t.Error("a variable at the package's level")
				}
				for _, s := range x.Specs {
					switch y := s.(type) {
					case *ast.TypeSpec:
						given = append(given, exported(y.Name)...)
					case *ast.ValueSpec:
						given = append(given, exported(y.Names...)...)
					}
				}
			}
		}
	}
	slices.Sort(given)
	if !slices.Equal(given, texts("Copy", "Cut", "Drop", "Flip", "Look", "New", "Next", "Send", "Swap", "Take", "Waiting", "Wire")) {
		t.Errorf("the package gives out %q", given)
	}
}

func exported(names ...*ast.Ident) []string {
	var l []string
	for _, n := range names {
		if n.IsExported() {
			l = append(l, n.Name)
		}
	}
	return l
}

// TestWireGivesNothingMore: no field, and no method of a part of it.
func TestWireGivesNothingMore(t *testing.T) {
	x := reflect.TypeFor[*wire.Wire]()
	var given []string
	for i := range x.NumMethod() {
		given = append(given, x.Method(i).Name)
	}
	for _, f := range reflect.VisibleFields(x.Elem()) {
		if f.IsExported() {
			given = append(given, f.Name)
		}
	}
	if !slices.Equal(given, texts("Copy", "Cut", "Drop", "Flip", "Look", "Next", "Send", "Swap", "Take", "Waiting")) {
		t.Errorf("a wire gives out %q", given)
	}
}
