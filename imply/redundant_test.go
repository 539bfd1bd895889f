package imply_test

import (
	"slices"
	"testing"

	"hearsay/api"
)

// P15.4: Redundant.

func TestRedundantOfFew(t *testing.T) {
	wantRedundant(t, nil)
	wantRedundant(t, rules())
	for _, s := range texts("p.", "ann says p(a, 1).", "p :- q.", "p :- q, q.", "p(V0) :- V1 says q(V0), q(V1).", t3) {
		wantRedundant(t, readAll(t, s))
		wantRedundant(t, readAll(t, s, s)) // a clause isn't another one of the set
		wantRedundant(t, readAll(t, s, s, s))
	}
	for _, s := range texts("p :- p.", "p(V0) :- q(V1), p(V0).", "ann says p :- ann says p, q.") {
		wantRedundant(t, readAll(t, s), s)
		wantRedundant(t, readAll(t, s, s), s)
	}
}

func TestRedundant(t *testing.T) {
	for _, x := range []struct{ list, want []string }{
		{texts(t1, t2, t3), texts(t2)},
		{texts(t1, t2, t3, t4), texts(t2, t4)},
		{texts(t1, t2, t4), nil},
		{texts("p.", "q.", "r."), nil},
		{texts("p.", "p :- q."), texts("p :- q.")},
		{texts("q.", "p :- q.", "p."), texts("p.", "p :- q.")},
		{texts("q(a).", "p(V0) :- q(V0).", "p(a)."), texts("p(a).")},
		// Clauses that imply one another: all are told.
		{texts("p :- q.", "p :- q, q."), texts("p :- q.", "p :- q, q.")},
		{texts("p :- q, r.", "p :- r, q."), texts("p :- q, r.", "p :- r, q.")},
		{texts("p(V0) :- q(V0), q(V1).", "p(V0) :- q(V0).", "p(V0) :- q(V1), q(V0)."), texts("p(V0) :- q(V0).", "p(V0) :- q(V0), q(V1).", "p(V0) :- q(V1), q(V0).")},
		{texts("p.", "q.", "p :- q.", "q :- p."), texts("p.", "p :- q.", "q.", "q :- p.")},
		{texts("p :- q.", "q :- p.", "p :- r.", "q :- r."), texts("p :- r.", "q :- r.")},
		// Several together imply one.
		{texts("p :- q.", "q :- r.", "p :- r."), texts("p :- r.")},
		{texts("p :- s.", "p :- q.", "q :- r.", "r :- s."), texts("p :- s.")},
		{texts("p(V0) :- q(V0).", "p(a) :- q(a).", "q(a).", "p(a).", "p(b)."), texts("p(a).", "p(a) :- q(a).")},
		{texts("ann says p :- V0 says p.", "ann says p :- bob says p.", "ann says p :- p."), texts("ann says p :- bob says p.")},
		// In order, whatever the list's order is.
		{texts("z :- z.", "b(V0) :- b(V0).", "a says c :- a says c.", "b :- b.", "c :- c."), texts("b :- b.", "b(V0) :- b(V0).", "c :- c.", "a says c :- a says c.", "z :- z.")},
	} {
		cs := readAll(t, x.list...)
		wantRedundant(t, cs, x.want...)
		slices.Reverse(cs)
		wantRedundant(t, slices.Concat(cs, cs), x.want...)
		if want := told(plainRedundant(cs)); !slices.Equal(want, x.want) {
			t.Errorf("the plain version has %q, not %q", want, x.want)
		}
	}
}

// TestRedundantByChance: beside the plain version; and beside what Implies says.
func TestRedundantByChance(t *testing.T) {
	n, both := 0, 0
	for seed := range int64(500) {
		cs := newChosen(seed).family(2 + int(seed%8))
		want := plainRedundant(cs)
		wantRedundant(t, cs, told(want)...)
		all := setOf(cs)
		for i, c := range all {
			wantImplied(t, allBut(all, i), c, hasClause(want, c))
		}
		n += len(want)
		both += count(len(want)+len(plainMinimal(cs)) > len(all))
	}
	if n < 800 || both < 60 {
		t.Errorf("too much alike: %d clauses are told, in %d sets not all of them can go", n, both)
	}
}

// fours: so many clauses d(0), d(1) .., and one more from which n^4 facts follow: with eight some 4100, with nine above 5000.
func fours(t *testing.T, n int) []api.Clause {
	t.Helper()
	return append(numbered("d", 0, n), read(t, "four(V0, V1, V2, V3) :- d(V0), d(V1), d(V2), d(V3)."))
}

// TestRedundantErrorsOnTheWay: a clause's frozen body is too much, wherever it stands in the order.
func TestRedundantErrorsOnTheWay(t *testing.T) {
	full := fours(t, 8)
	wantRedundant(t, full)
	for _, s := range texts("a :- d(V0).", "dd :- d(V0), q.", "e(V0) :- q, d(V0).", "z :- d(V0).", "z :- z, d(V0).") {
		wantRedundantErr(t, plus(full, read(t, s)), api.ErrFacts)
		wantRedundantErr(t, append(readAll(t, s, "a :- a.", "zz :- zz."), full...), api.ErrFacts)
	}
	// What adds no ninth d isn't too much.
	for _, s := range texts("a :- d(1).", "z(V0) :- e(V0, V1).", "z :- d(V0, V1).", "z :- ann says d(V0).") {
		wantRedundant(t, plus(full, read(t, s)))
	}
	// Without one of nine d there are eight, and without the rule nothing comes of its frozen body; without one of ten there are nine.
	wantRedundant(t, fours(t, 9))
	wantRedundantErr(t, fours(t, 10), api.ErrFacts)
}
