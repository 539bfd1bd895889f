package upkeep_test

import (
	"testing"

	"hearsay/api"
)

// Which clauses are one, and which are two that give the same.

// TestSameClauses: nil and empty lists are one, and so are the names that a text gives its variables.
func TestSameClauses(t *testing.T) {
	fact := rule(p())
	full := api.Clause{Head: api.Atom{Name: "p", Args: []api.Term{}}, Body: []api.Atom{}, Tests: []api.Test{}}
	for _, l := range [][]api.Clause{{fact, full}, {full, fact}} {
		w := watch(t)
		w.addClause(l[0])
		if change := w.addClause(l[1]); !noChange(change) {
			t.Errorf("P17.2: %v came", change)
		}
		w.removeClause(l[1])
		w.refuseRemove(l[0], api.ErrNotKept)
	}
	w := watchOf(t, "p(X, Y) :- q(X, Z), q(Z, Y).")
	w.add("p(A, B) :- q(A, C), q(C, B).")
	w.wantClauses("p(V0, V1) :- q(V0, V2), q(V2, V1).")
	w.remove("p(Z, X) :- q(Z, Y), q(Y, X).")
	w.wantClauses()
}

// TestOtherNumbering: such a clause is valid nowhere, and so not the one that is kept.
func TestOtherNumbering(t *testing.T) {
	kept := rule(p(v(0)), q(v(0), v(1)))
	w := watch(t)
	w.addClause(rule(q(a, b)))
	w.addClause(kept)
	for _, c := range []api.Clause{rule(p(v(1)), q(v(1), v(0))), rule(p(v(0)), q(v(0), v(2))), rule(p(v(7)), q(v(7), v(8))), rule(p(v(greatestInt)), q(v(greatestInt), v(0)))} {
		w.refuseAdd(c, api.ErrNumbering)
		w.refuseRemove(c, api.ErrNumbering)
	}
	if change := w.removeClause(kept); !same(change.Gone, atoms(p(a))) {
		t.Errorf("P17.3: %v", change)
	}
}

// TestLikeClauses: that differ in a field, an order or a double alone: each comes and goes by itself, and what they all give goes with the last of them.
func TestLikeClauses(t *testing.T) {
	like := program(t, `p(X) :- q(X, Y), r(Y).
		p(X) :- r(Y), q(X, Y).
		p(X) :- q(X, Y), r(Y), r(Y).
		p(X) :- q(X, Y), q(X, Y), r(Y).
		p(X) :- q(X, Y), r(Y), X = X.
		p(X) :- q(X, Y), r(Y), X <= X.
		p(X) :- q(X, Y), r(Y), X != Y.
		p(X) :- q(X, Y), r(Y), Y != X.
		p(X) :- q(X, Y), r(Y), 1 = 1.
		p(X) :- q(X, Y), r(Y), 1 = 1, X = X.
		p(X) :- q(X, Y), r(Y), X = X, 1 = 1.
		p(X) :- q(X, Y), r(Y), X = X, X = X.
		p(X) :- q(X, Y), r(Z).
		p(X) :- q(X, 1), r(Y).
		p(X) :- q(X, Y), r(1).
		p(a) :- q(a, Y), r(Y).
		p(a).
		p(a) :- 1 = 1.`)
	for first := range like {
		w := watchOf(t, "q(a, 1). r(1).")
		for i := range like {
			change := w.addClause(like[(first+i)%len(like)])
			if len(change.Came) != count(i == 0) {
				t.Errorf("P17.2: %q came with the clause number %d", toldAtoms(change.Came), i)
			}
		}
		if len(w.clauses) != 2+len(like) {
			t.Fatalf("just %d clauses", len(w.clauses))
		}
		for i := range like {
			change := w.removeClause(like[(first*7+i)%len(like)])
			if len(change.Gone) != count(i == len(like)-1) {
				t.Errorf("P17.3: %q gone with the clause number %d", toldAtoms(change.Gone), i)
			}
		}
	}
}

// TestLikeFacts: that differ in a kind, a qualifier or a bound alone.
func TestLikeFacts(t *testing.T) {
	w := watch(t)
	for _, f := range nearFacts() {
		if change := w.addClause(rule(f)); !same(change.Came, atoms(f)) {
			t.Errorf("P17.2: with %v came %v", f, change.Came)
		}
	}
	for i, f := range nearFacts() {
		if change := w.removeClause(rule(f)); !same(change.Gone, atoms(f)) {
			t.Errorf("P17.3: with %v, number %d, went %v", f, i, change.Gone)
		}
	}
	w.wantFacts()
}
