package journal_test

import (
	"go/ast"
	"go/parser"
	"go/token"
	"os"
	"reflect"
	"slices"
	"strings"
	"testing"

	"hearsay/journal"
)

// files: the package's own, without its tests.
func files(t *testing.T) []*ast.File {
	t.Helper()
	l, err := os.ReadDir(".")
	if err != nil {
		t.Fatal(err)
	}
	var out []*ast.File
	for _, f := range l {
		if !strings.HasSuffix(f.Name(), ".go") || strings.HasSuffix(f.Name(), "_test.go") {
			continue
		}
		tree, err := parser.ParseFile(token.NewFileSet(), f.Name(), nil, 0)
		if err != nil {
			t.Fatal(err)
		}
		out = append(out, tree)
	}
	return out
}

// TestStandsOn: of the project it knows the layers that the chapter names alone.
func TestStandsOn(t *testing.T) {
	known := texts("hearsay/api", "hearsay/term", "hearsay/digest", "hearsay/codec", "hearsay/cert", "hearsay/keys", "hearsay/context")
	for _, f := range files(t) {
		for _, x := range f.Imports {
			if path := strings.Trim(x.Path.Value, `"`); strings.HasPrefix(path, "hearsay") && !slices.Contains(known, path) {
				t.Errorf("it imports %s", path)
			}
		}
	}
}

// TestNothingMore: the calls that the chapter lists, and nothing is kept at the package's level.
func TestNothingMore(t *testing.T) {
	var given []string
	for _, f := range files(t) {
		for _, d := range f.Decls {
			switch x := d.(type) {
			case *ast.FuncDecl:
				given = append(given, exported(x.Name)...)
			case *ast.GenDecl:
				if x.Tok == token.VAR {
					t.Error("a variable at the package's level")
				}
				for _, s := range x.Specs {
					switch y := s.(type) {
					case *ast.TypeSpec:
						given = append(given, exported(y.Name)...)
					case *ast.ValueSpec:
						given = append(given, exported(y.Names...)...)
					}
				}
			}
		}
	}
	slices.Sort(given)
	if !slices.Equal(given, texts("Again", "Bytes", "Head", "Log", "Name", "New", "Note", "Open", "Records")) {
		t.Errorf("the package gives out %q", given)
	}
}

func exported(names ...*ast.Ident) []string {
	var l []string
	for _, n := range names {
		if n.IsExported() {
			l = append(l, n.Name)
		}
	}
	return l
}

// TestLogGivesNothingMore: no field, and no method of a part of it.
func TestLogGivesNothingMore(t *testing.T) {
	x := reflect.TypeFor[*journal.Log]()
	var given []string
	for i := range x.NumMethod() {
		given = append(given, x.Method(i).Name)
	}
	for _, f := range reflect.VisibleFields(x.Elem()) {
		if f.IsExported() {
			given = append(given, f.Name)
		}
	}
	if !slices.Equal(given, texts("Again", "Bytes", "Head", "Name", "Note", "Records")) {
		t.Errorf("a journal gives out %q", given)
	}
}
