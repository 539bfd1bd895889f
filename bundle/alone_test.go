package bundle_test

import (
	"go/ast"
	"go/parser"
	"go/token"
	"os"
	"slices"
	"strings"
	"testing"
)

// files: the package's own, without its tests.
func files(t *testing.T) []*ast.File {
	t.Helper()
	l, err := os.ReadDir(".")
	if err != nil {
		t.Fatal(err)
	}
	var out []*ast.File
	for _, f := range l {
		if !strings.HasSuffix(f.Name(), ".go") || strings.HasSuffix(f.Name(), "_test.go") {
			continue
		}
		tree, err := parser.ParseFile(token.NewFileSet(), f.Name(), nil, 0)
		if err != nil {
			t.Fatal(err)
		}
		out = append(out, tree)
	}
	return out
}

// TestStandsOn: of the project it knows the layers that the chapter names alone.
func TestStandsOn(t *testing.T) {
	known := texts("hearsay/api", "hearsay/term", "hearsay/clause", "hearsay/codec", "hearsay/eval", "hearsay/proof", "hearsay/check", "hearsay/keys", "hearsay/cert")
	for _, f := range files(t) {
		for _, x := range f.Imports {
			if path := strings.Trim(x.Path.Value, `"`); strings.HasPrefix(path, "hearsay") && !slices.Contains(known, path) {
				t.Errorf("it imports %s", path)
			}
		}
	}
}

// TestNothingMore: the calls that the chapter lists (an error value has its text and its reason beside them), and nothing is kept at the package's level: what stands there are errors.
func TestNothingMore(t *testing.T) {
	var given []string
	for _, f := range files(t) {
		for _, d := range f.Decls {
			switch x := d.(type) {
			case *ast.FuncDecl:
				if x.Name.IsExported() && (x.Recv == nil || x.Name.Name != "Error" && x.Name.Name != "Unwrap") {
					given = append(given, x.Name.Name)
				}
			case *ast.GenDecl:
				for _, s := range x.Specs {
					given = append(given, exportedBy(s)...)
					if y, is := s.(*ast.ValueSpec); is && x.Tok == token.VAR && !errorsAlone(y) {
						t.Errorf("%v are kept at the package's level", y.Names)
					}
				}
			}
		}
	}
	slices.Sort(given)
	if !slices.Equal(given, texts("Make", "Read", "Show", "Write")) {
		t.Errorf("the package gives out %q", given)
	}
}

// errorsAlone: whether each of the variables is made by errors.New.
func errorsAlone(s *ast.ValueSpec) bool {
	for _, value := range s.Values {
		call, is := value.(*ast.CallExpr)
		if !is {
			return false
		}
		f, is := call.Fun.(*ast.SelectorExpr)
		if !is || f.Sel.Name != "New" {
			return false
		}
	}
	return len(s.Values) == len(s.Names)
}

// exportedBy: the names that a type, a constant or a variable gives out.
func exportedBy(s ast.Spec) []string {
	var names []*ast.Ident
	switch x := s.(type) {
	case *ast.TypeSpec:
		names = append(names, x.Name)
	case *ast.ValueSpec:
		names = x.Names
	}
	var l []string
	for _, n := range names {
		if n.IsExported() {
			l = append(l, n.Name)
		}
	}
	return l
}
