package why_test

import (
	"go/parser"
	"go/token"
	"os"
	"slices"
	"strings"
	"testing"
)

// TestStandsOn: of the project it knows api, term, clause and eval alone.
func TestStandsOn(t *testing.T) {
	files, err := os.ReadDir(".")
	if err != nil {
		t.Fatal(err)
	}
	for _, f := range files {
		if !strings.HasSuffix(f.Name(), ".go") || strings.HasSuffix(f.Name(), "_test.go") {
			continue
		}
		tree, err := parser.ParseFile(token.NewFileSet(), f.Name(), nil, parser.ImportsOnly)
		if err != nil {
			t.Fatal(err)
		}
		for _, x := range tree.Imports {
			path := strings.Trim(x.Path.Value, `"`)
			if strings.HasPrefix(path, "hearsay") && !slices.Contains([]string{"hearsay/api", "hearsay/term", "hearsay/clause", "hearsay/eval"}, path) {
				t.Errorf("%s imports %s", f.Name(), path)
			}
		}
	}
}
