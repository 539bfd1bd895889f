package script

import (
	"slices"
	"testing"

	"hearsay/api"
)

// What no call shows: the tables, and the closures over a line's tokens.

// TestRows: each kind has one row with a name of its own; behind its last part stands none.
func TestRows(t *testing.T) {
	if len(rows) != api.DoRedundant {
		t.Errorf("Ways: the table has %d rows", len(rows))
	}
	for kind := api.DoEnroll; kind <= api.DoRedundant; kind++ {
		r, there := rowOf(kind)
		if !there || r.kind != kind || r.name == "" {
			t.Fatalf("Ways: the kind %d has the row %v, %v", kind, r, there)
		}
		if named, there := rowNamed(r.name); named != r || !there {
			t.Errorf("Ways: the name %s has the row %v, %v", r.name, named, there)
		}
		n := 0
		for n < len(r.order) && r.order[n] != noPart {
			if slices.Contains(r.order[:n], r.order[n]) {
				t.Errorf("Ways: %s has a part twice", r.name)
			}
			n++
		}
		if behind := r.order[n:]; slices.ContainsFunc(behind, func(p int) bool { return p != noPart }) {
			t.Errorf("Ways: %s has a part behind its last", r.name)
		}
		if l := r.parts(); len(l) != n {
			t.Errorf("Ways: %s has %d parts, not %d", r.name, len(l), n)
		}
	}
}

// TestNoRow: what is in no row has the zero row.
func TestNoRow(t *testing.T) {
	for _, kind := range []int{0, -1, 25} {
		if r, there := rowOf(kind); r != (row{}) || there {
			t.Errorf("Ways: the kind %d has the row %v", kind, r)
		}
	}
	for _, name := range []string{"", "x", "Enroll"} {
		if r, there := rowNamed(name); r != (row{}) || there {
			t.Errorf("Ways: the name %q has the row %v", name, r)
		}
	}
}

// TestParts: each has all that is done with one.
func TestParts(t *testing.T) {
	all := parts()
	for p := partWho; p <= partK; p++ {
		if x := all[p]; x.take == nil || x.spell == nil || x.empty == nil {
			t.Errorf("Ways: the part %d lacks a function", p)
		}
	}
	if len(all) != partK {
		t.Errorf("Ways: there are %d parts", len(all))
	}
}

// TestTaking: tokens are taken one by one; one of another kind stays.
func TestTaking(t *testing.T) {
	l := []api.Token{{Kind: api.TokWord, Text: "drop", At: 2, End: 6}, {Kind: api.TokNum, N: 7, At: 8, End: 9}}
	take, place := over(l, 12)
	other, otherPlace := over(l, 12)
	for i, x := range l {
		if got, ok := take(api.TokText, api.TokSays); got != (api.Token{}) || ok || place() != x.At {
			t.Errorf("Ways: %v, %v is taken, and the place is %d", got, ok, place())
		}
		if got, ok := take(); got != (api.Token{}) || ok || place() != x.At {
			t.Errorf("Ways: of no kind %v, %v is taken, and the place is %d", got, ok, place())
		}
		if got, ok := take(api.TokText, x.Kind); got != l[i] || !ok {
			t.Errorf("Ways: %v, %v is taken, not %v", got, ok, l[i])
		}
	}
	if got, ok := take(api.TokWord, api.TokNum); got != (api.Token{}) || ok || place() != 12 {
		t.Errorf("Ways: behind the last token %v, %v is taken, and the place is %d", got, ok, place())
	}
	if got, ok := other(api.TokWord); got != l[0] || !ok || otherPlace() != 8 {
		t.Errorf("Ways: beside another walk %v, %v is taken, and the place is %d", got, ok, otherPlace())
	}
}
