package imply_test

import (
	"slices"
	"testing"

	"hearsay/api"
)

// P15.2, P15.4, P15.5, R7: ErrMany and ErrFacts, as Whole answers them of the set of cs and the frozen body's atoms.

// TestMany: just 1000 different clauses and one more, the frozen body's among them; doubles count once.
func TestMany(t *testing.T) {
	cs := numbered("n", 0, 1001)
	full := cs[:1000]
	twice := slices.Concat(full, full)
	for _, l := range [][]api.Clause{full, twice} {
		wantImplied(t, l, read(t, "n(999)."), true)
		wantImplied(t, l, read(t, "n(1000)."), false)
		// Atoms that are clauses of cs already.
		wantImplied(t, l, read(t, "n(7) :- n(8), n(9), n(8)."), true)
		wantImplied(t, l, read(t, "p :- n(8), n(9), n(10), n(11), n(12), n(13), n(14), n(15)."), false)
		for _, s := range texts("n(7) :- q.", "n(7) :- n(V0).", "p :- n(8), q.", "p :- n(1000).", "p :- ann says n(7).", "p :- n(\"7\").", "p :- p.") {
			wantImpliesErr(t, l, read(t, s), api.ErrMany)
		}
	}
	for _, s := range texts("n(7).", "p.", "n(7) :- n(7).", "p :- p.") {
		wantImpliesErr(t, cs, read(t, s), api.ErrMany)
	}
	// One atom more, two, eight.
	wantImplied(t, cs[:999], read(t, "p :- q, q, q."), false)
	wantImplied(t, cs[:999], read(t, "p(V0) :- p(V0)."), true)
	wantImpliesErr(t, cs[:999], read(t, "p(V0) :- p(V0), p(V1)."), api.ErrMany)
	wantImplied(t, cs[:998], read(t, "p(V0) :- p(V0), p(V1)."), true)
	wantImpliesErr(t, cs[:993], widest(), api.ErrMany)
	wantImplied(t, cs[:992], widest(), false)
	// A clause with a body counts, too; and one and the same fact as a clause and as a frozen atom counts once.
	rule := read(t, "p(V0) :- q(V0).")
	wantImplied(t, plus(cs[:998], rule), read(t, "p(a) :- q(a)."), true)
	wantImpliesErr(t, plus(cs[:999], rule), read(t, "p(a) :- q(a)."), api.ErrMany)
	wantImplied(t, plus(cs[:998], rule, read(t, "q(a).")), read(t, "p(a) :- q(a)."), true)
}

// squares: 70 facts d and 4900 of pair, and further ones up to so many facts in all.
func squares(t *testing.T, facts int) []api.Clause {
	t.Helper()
	return slices.Concat(numbered("d", 0, 70), readAll(t, "pair(V0, V1) :- d(V0), d(V1)."), numbered("more", 0, facts-4970))
}

// TestManyFacts: just 5000 facts and one more, the frozen body's among them; the frozen head isn't, if it doesn't follow.
func TestManyFacts(t *testing.T) {
	full := squares(t, 5000)
	wantImplied(t, full, read(t, "pair(3, 69)."), true)
	wantImplied(t, full, read(t, "pair(3, 70)."), false)
	// Atoms that follow already: no fact more.
	wantImplied(t, full, read(t, "d(3) :- pair(1, 2), more(3), d(4)."), true)
	wantImplied(t, full, read(t, "q :- pair(1, 2), more(3), d(4)."), false)
	for _, s := range texts("q :- q.", "d(3) :- q.", "q :- more(V0).", "q :- pair(1, 70).", "q :- ann says d(1).") {
		wantImpliesErr(t, full, read(t, s), api.ErrFacts)
	}
	less := squares(t, 4999)
	wantImplied(t, less, read(t, "q(V0) :- q(V0)."), true)
	wantImplied(t, less, read(t, "r :- q, q, q."), false)
	wantImpliesErr(t, less, read(t, "r(V0) :- r(V0), r(V1)."), api.ErrFacts)
	wantImpliesErr(t, less, read(t, "r :- d(V0)."), api.ErrFacts)
	// What follows from the frozen atoms counts.
	more := plus(less, read(t, "s(V0) :- q(V0)."))
	wantImpliesErr(t, more, read(t, "s(V0) :- q(V0)."), api.ErrFacts)
	wantImplied(t, more, read(t, "r(V0) :- r(V0)."), true)
	over := squares(t, 5001)
	for _, s := range texts("q.", "d(3).", "pair(3, 4).", "q :- q.") {
		wantImpliesErr(t, over, read(t, s), api.ErrFacts)
	}
	// ErrMany comes first.
	wantImpliesErr(t, slices.Concat(over, numbered("n", 0, 1000)), read(t, "q."), api.ErrMany)
}

// TestSetsOfMany: as each clause is asked of the others, one more than an evaluation takes is let in, if nothing comes with its frozen body.
func TestSetsOfMany(t *testing.T) {
	t.Parallel()
	over := numbered("n", 0, 1001)
	wantRedundant(t, slices.Concat(over, over))
	wantMinimal(t, slices.Concat(over, over), told(over)...)
	wantRedundantErr(t, numbered("n", 0, 1002), api.ErrMany)
	wantMinimalErr(t, numbered("n", 0, 1002), api.ErrMany)
	for _, s := range texts("a :- q.", "n(0) :- q.") {
		wantRedundantErr(t, plus(over[:1000], read(t, s)), api.ErrMany)
	}
	wantMinimalErr(t, plus(over[:1000], read(t, "z :- q.")), api.ErrMany)
	// It would go, if it could be asked.
	wantMinimalErr(t, plus(over[:1000], read(t, "n(999) :- q.")), api.ErrMany)
}

// TestMinimalMakesRoom: what has gone by then doesn't count.
func TestMinimalMakesRoom(t *testing.T) {
	t.Parallel()
	stay := plus(numbered("n", 0, 998), readAll(t, "a :- q.", "zz(1).")...)
	cs := plus(stay, read(t, "zz(1) :- n(1)."))
	// The last one is asked beside 1000 others, of which its body is one; when it has gone there is room for q.
	wantMinimal(t, cs, told(setOf(stay))...)
	wantRedundantErr(t, cs, api.ErrMany)
}

// TestTheFirstError: lists of 1001 clauses of which a clause without a body is refused by ErrFacts, one with a body by ErrMany: Redundant goes from the first to the last, Minimal from the last to the first.
func TestTheFirstError(t *testing.T) {
	much := slices.Concat(squares(t, 4970), numbered("more", 0, 928))
	if len(much) != 999 {
		t.Fatal(len(much))
	}
	facts, body := readAll(t, "a.", "zz."), readAll(t, "a :- q.", "zz :- q.")
	for _, x := range []struct {
		cs               []api.Clause
		redundant, least api.Errno
	}{
		{plus(much, facts[0], body[1]), api.ErrFacts, api.ErrMany},
		{plus(much, body[0], facts[1]), api.ErrMany, api.ErrFacts},
		{plus(much, facts[0], facts[1]), api.ErrFacts, api.ErrFacts},
		{plus(much, body[0], body[1]), api.ErrMany, api.ErrMany},
	} {
		wantRedundantErr(t, x.cs, x.redundant)
		wantMinimalErr(t, x.cs, x.least)
	}
}
