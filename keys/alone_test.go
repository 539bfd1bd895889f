package keys_test

import (
	"go/ast"
	"go/parser"
	"go/token"
	"go/types"
	"os"
	"reflect"
	"slices"
	"strings"
	"testing"

	"hearsay/keys"
)

// files: the package's own, without its tests.
func files(t *testing.T) []*ast.File {
	t.Helper()
	l, err := os.ReadDir(".")
	if err != nil {
		t.Fatal(err)
	}
	var out []*ast.File
	for _, f := range l {
		if !strings.HasSuffix(f.Name(), ".go") || strings.HasSuffix(f.Name(), "_test.go") {
			continue
		}
		tree, err := parser.ParseFile(token.NewFileSet(), f.Name(), nil, 0)
		if err != nil {
			t.Fatal(err)
		}
		out = append(out, tree)
	}
	return out
}

// TestStandsOn: of the project it knows the layers that the chapter names alone.
func TestStandsOn(t *testing.T) {
	known := texts("hearsay/api", "hearsay/digest")
	for _, f := range files(t) {
		for _, x := range f.Imports {
			if path := strings.Trim(x.Path.Value, `"`); strings.HasPrefix(path, "hearsay") && !slices.Contains(known, path) {
				t.Errorf("it imports %s", path)
			}
		}
	}
}

// TestNothingMore: the calls that the chapter lists, and nothing is kept at the package's level.
func TestNothingMore(t *testing.T) {
	var given []string
	for _, f := range files(t) {
		for _, d := range f.Decls {
			switch x := d.(type) {
			case *ast.FuncDecl:
				if x.Name.IsExported() {
					given = append(given, x.Name.Name)
				}
			case *ast.GenDecl:
				if x.Tok == token.VAR {
					t.Error("a variable at the package's level")
				}
				for _, s := range x.Specs {
					if y, ok := s.(*ast.TypeSpec); ok && y.Name.IsExported() {
						given = append(given, y.Name.Name)
					}
				}
			}
		}
	}
	slices.Sort(given)
	if !slices.Equal(given, texts("Enroll", "Has", "Names", "New", "Ring", "Sign", "Signed", "Verify")) {
		t.Errorf("the package gives out %q", given)
	}
}

// TestRingGivesNothingMore: no field, and no method of a part of it.
func TestRingGivesNothingMore(t *testing.T) {
	ring := reflect.TypeFor[*keys.Ring]()
	var given []string
	for i := range ring.NumMethod() {
		given = append(given, ring.Method(i).Name)
	}
	for _, f := range reflect.VisibleFields(ring.Elem()) {
		if f.IsExported() {
			given = append(given, f.Name)
		}
	}
	if !slices.Equal(given, texts("Enroll", "Has", "Names", "Sign", "Signed", "Verify")) {
		t.Errorf("a ring gives out %q", given)
	}
}

// TestHeld: each call of a ring holds it from its first line on, and lets it go by defer. (A call that doesn't might be found out by chance alone.)
func TestHeld(t *testing.T) {
	held := 0
	for _, f := range files(t) {
		for _, d := range f.Decls {
			x, ok := d.(*ast.FuncDecl)
			if !ok || x.Recv == nil || !x.Name.IsExported() {
				continue
			}
			held++
			if !holds(x.Body.List) {
				t.Errorf("%s doesn't hold the ring", x.Name.Name)
			}
		}
	}
	if held != 6 {
		t.Errorf("%d calls of a ring", held)
	}
}

func holds(body []ast.Stmt) bool {
	if len(body) < 2 {
		return false
	}
	lock, ok := body[0].(*ast.ExprStmt)
	unlock, deferred := body[1].(*ast.DeferStmt)
	return ok && deferred && types.ExprString(lock.X) == "r.held.Lock()" && types.ExprString(unlock.Call) == "r.held.Unlock()"
}
