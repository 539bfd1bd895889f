package imply_test

import (
	"slices"
	"testing"

	"hearsay/api"
	"hearsay/imply"
)

// P15.5: Minimal.

func TestMinimalOfFew(t *testing.T) {
	wantMinimal(t, nil)
	wantMinimal(t, rules())
	for _, s := range texts("p.", "ann says p(a, 1).", "p :- q.", "p :- q, q.", "p(V0) :- V1 says q(V0), q(V1).", t3) {
		wantMinimal(t, readAll(t, s), s)
		wantMinimal(t, readAll(t, s, s), s)
		wantMinimal(t, readAll(t, s, s, s), s)
	}
	for _, s := range texts("p :- p.", "p(V0) :- q(V1), p(V0).", "ann says p :- ann says p, q.") {
		wantMinimal(t, readAll(t, s))
		wantMinimal(t, readAll(t, s, s))
	}
}

func TestMinimal(t *testing.T) {
	for _, x := range []struct{ list, want []string }{
		{texts(t1, t2, t3), texts(t1, t3)},
		{texts(t1, t2, t3, t4), texts(t1, t3)},
		{texts(t1, t2, t4), texts(t1, t2, t4)},
		{texts("p.", "q.", "r."), texts("p.", "q.", "r.")},
		{texts("p.", "p :- q.", "p :- q, r."), texts("p.")},
		{texts("q.", "p :- q.", "p."), texts("p.", "q.")},
		{texts("q(a).", "p(V0) :- q(V0).", "p(a)."), texts("p(V0) :- q(V0).", "q(a).")},
		{texts("p :- q.", "q :- r.", "p :- r."), texts("p :- q.", "q :- r.")},
		{texts("p(V0) :- q(V0).", "p(a) :- q(a).", "q(a).", "p(a).", "p(b)."), texts("p(b).", "p(V0) :- q(V0).", "q(a).")},
		{texts("ann says p :- V0 says p.", "ann says p :- bob says p.", "ann says p :- p."), texts("ann says p :- p.", "ann says p :- V0 says p.")},
		// In order, whatever the list's order is.
		{texts("z.", "b(1).", "a says c.", "b.", "c."), texts("b.", "b(1).", "c.", "a says c.", "z.")},
	} {
		cs := readAll(t, x.list...)
		wantMinimal(t, cs, x.want...)
		slices.Reverse(cs)
		wantMinimal(t, slices.Concat(cs, cs), x.want...)
		if want := told(plainMinimal(cs)); !slices.Equal(want, x.want) {
			t.Errorf("the plain version has %q, not %q", want, x.want)
		}
		wantAsSmall(t, cs)
	}
}

// TestFromTheLastToTheFirst: lists in which another way to go through them leaves something else.
func TestFromTheLastToTheFirst(t *testing.T) {
	for _, x := range []struct{ list, want []string }{
		{texts("p :- q.", "p :- q, q."), texts("p :- q.")},
		{texts("p :- q, r.", "p :- r, q."), texts("p :- q, r.")},
		{texts("p :- q.", "q :- p.", "p :- r.", "q :- r."), texts("p :- q.", "p :- r.", "q :- p.")},
		{texts("p.", "q.", "p :- q.", "q :- p."), texts("p.", "q.")},
		{texts("p(a).", "q(a).", "p(V0) :- q(V0).", "q(V0) :- p(V0)."), texts("p(a).", "p(V0) :- q(V0).", "q(V0) :- p(V0).")},
		{texts("p(V0) :- q(V0), q(V1).", "p(V0) :- q(V0).", "p(V0) :- q(V1), q(V0)."), texts("p(V0) :- q(V0).")},
		{texts("a :- b.", "b :- c.", "c :- a.", "a :- c.", "c :- b.", "b :- a."), texts("a :- b.", "a :- c.", "b :- a.", "c :- a.")},
		{texts("p(V0, V1) :- p(V1, V0).", "p(V0, V1) :- e(V0, V1).", "p(V0, V1) :- e(V1, V0)."), texts("p(V0, V1) :- e(V0, V1).", "p(V0, V1) :- p(V1, V0).")},
	} {
		cs := readAll(t, x.list...)
		wantMinimal(t, cs, x.want...)
		for i, other := range [][]api.Clause{minimalFromTheFirst(cs), minimalAgainstAll(cs)} {
			if slices.Equal(told(other), x.want) {
				t.Errorf("the list %q doesn't tell the other way %d from the right one", x.list, i)
			}
		}
		wantAsSmall(t, cs)
	}
}

// wantAsSmall: what is left is of the list, implies each of its clauses, and none of what is left is implied by the others.
func wantAsSmall(t *testing.T, cs []api.Clause) {
	t.Helper()
	left, _ := imply.Minimal(cs)
	for _, c := range cs {
		wantImplied(t, left, c, true)
	}
	for i, c := range left {
		wantImplied(t, allBut(left, i), c, false)
		if !hasClause(cs, c) {
			t.Errorf("P15.5: %q isn't among %q", told(rules(c)), told(cs))
		}
	}
	wantRedundant(t, left)
	wantMinimal(t, left, told(left)...)
	wantEqual(t, cs, left, true)
}

// TestMinimalByChance: beside the plain version, and over facts.
func TestMinimalByChance(t *testing.T) {
	went, first, whole := 0, 0, 0
	for seed := range int64(400) {
		c := newChosen(seed)
		cs := c.family(2 + int(seed%8))
		want := plainMinimal(cs)
		wantMinimal(t, cs, told(want)...)
		wantAsSmall(t, cs)
		for range 3 {
			wantSameModel(t, "P15.5", cs, want, c.facts())
		}
		went += len(setOf(cs)) - len(want)
		first += count(!sameClauses(want, minimalFromTheFirst(cs)))
		whole += count(!sameClauses(want, minimalAgainstAll(cs)))
	}
	if went < 500 || first < 60 || whole < 60 {
		t.Errorf("too much alike: %d clauses went, %d sets answer otherwise from the first on, %d against the whole set", went, first, whole)
	}
}

// TestAllSmallSets: all parts of a list whose clauses hang together, for Redundant too.
func TestAllSmallSets(t *testing.T) {
	l := readAll(t, "p.", "p :- q.", "q :- p.", "q :- r.", "p :- r.", "q.", "r :- p, q.", "p :- q, r.", "r :- r.")
	for bits := range 1 << len(l) {
		var cs []api.Clause
		for i, c := range l {
			if bits>>i&1 == 1 {
				cs = append(cs, c)
			}
		}
		wantMinimal(t, cs, told(plainMinimal(cs))...)
		wantRedundant(t, cs, told(plainRedundant(cs))...)
	}
}

// TestMinimalErrorsOnTheWay: a clause's frozen body is too much, wherever it stands in the order.
func TestMinimalErrorsOnTheWay(t *testing.T) {
	full := fours(t, 8)
	wantMinimal(t, full, told(setOf(full))...)
	for _, s := range texts("a :- d(V0).", "dd :- d(V0), q.", "e(V0) :- q, d(V0).", "z :- d(V0).", "z :- z, d(V0).") {
		wantMinimalErr(t, plus(full, read(t, s)), api.ErrFacts)
		wantMinimalErr(t, append(readAll(t, s, "a :- a.", "zz :- zz."), full...), api.ErrFacts)
	}
	wantMinimalErr(t, fours(t, 10), api.ErrFacts)
	// A clause that goes first, of some that imply one another, leaves no more facts than before.
	wantMinimalErr(t, plus(full, readAll(t, "a :- d(V0).", "five(V0) :- four(V0, V0, V0, V0).", "five(V0) :- d(V0).")...), api.ErrFacts)
}
