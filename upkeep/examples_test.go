package upkeep_test

import (
	"slices"
	"testing"

	"hearsay/api"
)

// The examples of chapter 17, row by row, each behind the ones ahead of it.

func TestExamplesOfPaths(t *testing.T) {
	unsafe := rule(atom("good", v(1)))
	w := watch(t)
	w.add("edge(a, b).", "edge(a, b)")
	w.add("edge(a, b).")
	w.refuseAdd(unsafe, api.ErrSafe)

	w.add("path(X, Y) :- edge(X, Y).", "path(a, b)")

	w.add("path(X, Y) :- edge(X, Z), path(Z, Y).")

	w.add("edge(b, a).", "edge(b, a)", "path(a, a)", "path(b, a)", "path(b, b)")

	w.add("path(a, b).")

	w.wantHas(atom("path", b, b), true)
	w.wantHas(atom("path", v(0), b), false)
	w.wantHas(atom("edge", b, b), false)
	w.wantAnswers(atom("path", v(3), v(3)), "path(a, a)", "path(b, b)")

	w.remove("edge(a, b).", "edge(a, b)", "path(a, a)")
	w.wantFacts("edge(b, a)", "path(a, b)", "path(b, a)", "path(b, b)")

	w.refuseRemove(clauseOf(t, "edge(a, b)."), api.ErrNotKept)
	w.refuseRemove(unsafe, api.ErrSafe)

	w.remove("path(a, b).", "path(a, b)", "path(b, b)")
	w.wantFacts("edge(b, a)", "path(b, a)")
	w.wantClauses("edge(b, a).", "path(V0, V1) :- edge(V0, V1).", "path(V0, V1) :- edge(V0, V2), path(V2, V1).")
}

func TestExampleOfACircle(t *testing.T) {
	w := watch(t)
	w.add("p :- q.")
	w.add("q :- p.")
	w.add("q.", "p", "q")
	w.remove("q.", "p", "q")
	w.wantFacts()
}

func TestExampleOfManyClauses(t *testing.T) {
	w := watch(t)
	w.clauses = numbered("n", 0, 1000)
	w.k = keptOf(t, w.clauses)
	w.facts = w.k.Facts()
	w.add("n(7).")
	w.refuseAdd(clauseOf(t, "n(1000)."), api.ErrMany)
	w.remove("n(500).", "n(500)")
	w.add("n(1000).", "n(1000)")
	w.refuseAdd(clauseOf(t, "n(500)."), api.ErrMany)
}

// TestExampleOfManyFacts: 6570 facts, whichever clause is the last to come.
func TestExampleOfManyFacts(t *testing.T) {
	cs := append(numbered("d", 0, 9), clauseOf(t, "p(A, B, C, D) :- d(A), d(B), d(C), d(D)."))
	for place, last := range cs {
		w := watch(t)
		w.clauses = setOf(slices.Delete(slices.Clone(cs), place, place+1))
		w.k = keptOf(t, w.clauses)
		w.facts = w.k.Facts()
		w.refuseAdd(last, api.ErrFacts)
	}
	k := keptOf(t, slices.Delete(slices.Clone(cs), 8, 9))
	if got := k.Answers(p(v(0), v(1), v(2), v(3))); len(got) != 4096 || len(k.Facts()) != 4104 {
		t.Errorf("P17.4: %d facts p, %d in all, want 4096 and 4104", len(got), len(k.Facts()))
	}
	if change, err := keptOf(t, cs[:8]).Add(cs[9]); len(change.Came) != 4096 || err != api.OK {
		t.Errorf("P17.2: %d facts came, %d, want 4096 and OK", len(change.Came), err)
	}
}
