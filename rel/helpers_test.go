package rel_test

import (
	"iter"
	"slices"
	"testing"

	"hearsay/api"
	"hearsay/rel"
)

const (
	leastInt    = -1 << 63
	greatestInt = 1<<63 - 1
)

func nums(l ...int) []int { return l }

func rows(l ...[]int) [][]int { return l }

func newRel(t *testing.T, width int) *rel.Rel {
	t.Helper()
	r, err := rel.New(width)
	if r == nil || err != api.OK {
		t.Fatalf("P7.1: New(%d) is %v, %d", width, r, err)
	}
	return r
}

// relOf: a relation whose next part has just these rows.
func relOf(t *testing.T, width int, l ...[]int) *rel.Rel {
	t.Helper()
	r := newRel(t, width)
	for _, row := range l {
		wantAdd(t, "P7.2", r, row, true)
	}
	return r
}

func wantAdd(t *testing.T, promise string, r *rel.Rel, row []int, want bool) {
	t.Helper()
	if came, err := r.Add(row); came != want || err != api.OK {
		t.Errorf("%s: Add(%d) is %v, %d; want %v", promise, row, came, err, want)
	}
}

func wantNoRow(t *testing.T, r *rel.Rel, row []int) {
	t.Helper()
	if came, err := r.Add(row); came || err != api.ErrWidth {
		t.Errorf("P7.2: Add(%d) is %v, %d; want false, ErrWidth", row, came, err)
	}
}

func wantTurn(t *testing.T, r *rel.Rel, want int) {
	t.Helper()
	if n := r.Turn(); n != want {
		t.Errorf("P7.3: Turn() is %d, want %d", n, want)
	}
}

func wantPart(t *testing.T, promise string, r *rel.Rel, row []int, want int) {
	t.Helper()
	if part := r.Part(row); part != want {
		t.Errorf("%s: Part(%d) is %d, want %d", promise, row, part, want)
	}
}

func wantLen(t *testing.T, r *rel.Rel, parts, want int) {
	t.Helper()
	if n := r.Len(parts); n != want {
		t.Errorf("P7.5: Len(%d) is %d, want %d", parts, n, want)
	}
}

// same: row by row, nil and empty lists being one.
func same(a, b [][]int) bool { return slices.EqualFunc(a, b, slices.Equal) }

func wantRows(t *testing.T, r *rel.Rel, parts int, want ...[]int) {
	t.Helper()
	if l := r.Rows(parts); !same(l, want) {
		t.Errorf("P7.5: Rows(%d) is %d, want %d", parts, l, want)
	}
}

func wantFind(t *testing.T, r *rel.Rel, parts int, cols, key []int, want ...[]int) {
	t.Helper()
	if l := slices.Collect(r.Find(parts, cols, key)); !same(l, want) {
		t.Errorf("P7.6: Find(%d, %d, %d) gives %d, want %d", parts, cols, key, l, want)
	}
}

func wantGiven(t *testing.T, what string, seq iter.Seq[[]int], want ...[]int) {
	t.Helper()
	if l := slices.Collect(seq); !same(l, want) {
		t.Errorf("P7.6: %s: it gives %d, want %d", what, l, want)
	}
}
