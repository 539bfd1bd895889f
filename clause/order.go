package clause

import (
	"cmp"
	"slices"

	"hearsay/api"
	"hearsay/term"
)

// Compare: by head, number of body atoms, body atoms, number of tests, tests. For all clauses.
func Compare(a, b api.Clause) int {
	if n := term.CompareAtoms(a.Head, b.Head); n != 0 {
		return n
	}
	if n := compareLists(a.Body, b.Body, term.CompareAtoms); n != 0 {
		return n
	}
	return compareLists(a.Tests, b.Tests, compareTests)
}

// compareLists: a shorter list stands ahead of a longer one, whatever is in them.
func compareLists[T any](a, b []T, compare func(a, b T) int) int {
	if len(a) != len(b) {
		return cmp.Compare(len(a), len(b))
	}
	return slices.CompareFunc(a, b, compare)
}

func compareTests(a, b api.Test) int {
	if a.Op != b.Op {
		return cmp.Compare(a.Op, b.Op)
	}
	if n := term.Compare(a.L, b.L); n != 0 {
		return n
	}
	return term.Compare(a.R, b.R)
}

// Set: the clauses in order, none twice.
func Set(cs []api.Clause) []api.Clause {
	sorted := slices.Clone(cs)
	slices.SortFunc(sorted, Compare)
	var out []api.Clause
	for i, c := range sorted {
		if i == 0 || Compare(sorted[i-1], c) != 0 {
			out = append(out, copied(c))
		}
	}
	return out
}
