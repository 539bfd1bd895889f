package script_test

import (
	"go/ast"
	"go/parser"
	"go/token"
	"os"
	"slices"
	"strings"
	"testing"
)

// files: the package's own, without its tests.
func files(t *testing.T) []*ast.File {
	t.Helper()
	l, err := os.ReadDir(".")
	if err != nil {
		t.Fatal(err)
	}
	var out []*ast.File
	for _, f := range l {
		if !strings.HasSuffix(f.Name(), ".go") || strings.HasSuffix(f.Name(), "_test.go") {
			continue
		}
		tree, err := parser.ParseFile(token.NewFileSet(), f.Name(), nil, 0)
		if err != nil {
			t.Fatal(err)
		}
		out = append(out, tree)
	}
	return out
}

// inFiles: all that stands in the package's files.
func inFiles(t *testing.T, look func(ast.Node)) {
	t.Helper()
	for _, f := range files(t) {
		ast.Inspect(f, func(n ast.Node) bool {
			look(n)
			return true
		})
	}
}

// TestStandsOn: of the project it knows api and tokens alone.
func TestStandsOn(t *testing.T) {
	for _, f := range files(t) {
		for _, x := range f.Imports {
			if path := strings.Trim(x.Path.Value, `"`); !slices.Contains(texts("hearsay/api", "hearsay/tokens", "slices", "strconv", "strings"), path) {
				t.Errorf("it imports %s", path)
			}
		}
	}
}

// TestNothingMore: the calls that the chapter lists, no type, no constant, no variable.
func TestNothingMore(t *testing.T) {
	var given []string
	for _, f := range files(t) {
		for _, d := range f.Decls {
			switch x := d.(type) {
			case *ast.FuncDecl:
				given = append(given, exported(x.Name)...)
			case *ast.GenDecl:
				for _, s := range x.Specs {
					switch y := s.(type) {
					case *ast.TypeSpec:
						given = append(given, exported(y.Name)...)
					case *ast.ValueSpec:
						given = append(given, exported(y.Names...)...)
					}
				}
			}
		}
	}
	slices.Sort(given)
	if !slices.Equal(given, texts("Blank", "Lines", "Print", "Read")) {
		t.Errorf("the package gives out %q", given)
	}
}

func exported(names ...*ast.Ident) []string {
	var l []string
	for _, n := range names {
		if n.IsExported() {
			l = append(l, n.Name)
		}
	}
	return l
}

// tables: the variables at the package's level.
func tables(t *testing.T) []*ast.ValueSpec {
	t.Helper()
	var out []*ast.ValueSpec
	for _, f := range files(t) {
		for _, d := range f.Decls {
			if x, ok := d.(*ast.GenDecl); ok && x.Tok == token.VAR {
				for _, s := range x.Specs {
					out = append(out, s.(*ast.ValueSpec))
				}
			}
		}
	}
	return out
}

// TestConstantTable: one variable alone, whose declaration is itself a literal, with a row for each kind and neither a call nor an & in it.
func TestConstantTable(t *testing.T) {
	l := tables(t)
	if len(l) != 1 || len(l[0].Names) != 1 || len(l[0].Values) != 1 {
		t.Fatalf("Ways: %d lines of variables at the package's level", len(l))
	}
	literal, ok := l[0].Values[0].(*ast.CompositeLit)
	if !ok || len(literal.Elts) != 24 {
		t.Fatalf("Ways: the table isn't a literal of 24 rows")
	}
	var names []string
	ast.Inspect(literal, func(n ast.Node) bool {
		switch x := n.(type) {
		case *ast.CallExpr, *ast.UnaryExpr, *ast.FuncLit:
			t.Errorf("Ways: the table has a %T", x)
		case *ast.BasicLit:
			if x.Kind == token.STRING {
				names = append(names, strings.Trim(x.Value, `"`))
			}
		}
		return true
	})
	var want []string
	for _, r := range plainRows() {
		want = append(want, r.name)
	}
	slices.Sort(names)
	slices.Sort(want)
	if !slices.Equal(names, want) {
		t.Errorf("Ways: the table's words are %q", names)
	}
}

// TestTableStays: it is never written to, its address is never taken, and no piece of it.
func TestTableStays(t *testing.T) {
	name := tables(t)[0].Names[0].Name
	is := func(x ast.Expr) bool {
		if i, ok := x.(*ast.IndexExpr); ok {
			x = i.X
		}
		i, ok := x.(*ast.Ident)
		return ok && i.Name == name
	}
	inFiles(t, func(n ast.Node) {
		switch x := n.(type) {
		case *ast.AssignStmt:
			if slices.ContainsFunc(x.Lhs, is) {
				t.Error("the table is written to")
			}
		case *ast.UnaryExpr:
			if x.Op == token.AND && is(x.X) {
				t.Error("the table's address is taken")
			}
		case *ast.SliceExpr:
			if is(x.X) {
				t.Error("a piece of the table is taken")
			}
		}
	})
}

// TestFunctionFieldsAndClosures: what is done with the parts stands in a struct's function fields, and there are closures.
func TestFunctionFieldsAndClosures(t *testing.T) {
	fields, closures := 0, 0
	inFiles(t, func(n ast.Node) {
		switch x := n.(type) {
		case *ast.StructType:
			for _, f := range x.Fields.List {
				if _, ok := f.Type.(*ast.FuncType); ok {
					fields++
				}
			}
		case *ast.FuncLit:
			closures++
		}
	})
	if fields == 0 || closures == 0 {
		t.Errorf("Ways: %d function fields, %d closures", fields, closures)
	}
}
