package upkeep_test

import (
	"testing"

	"hearsay/api"
)

// P17.2: Add.

// refused: a clause, and Check's error of it.
type refused struct {
	c   api.Clause
	err api.Errno
}

// refusals: every error of Check's, wherever it comes from.
func refusals() []refused {
	ok := rule(p(v(0)), q(v(0)))
	return []refused{
		{rule(p(), nTimes(9, q())...), api.ErrBody},
		{with(ok, nTimes(9, test(api.OpEq, a, a))...), api.ErrBody},
		{rule(by(ann, atom("z")), nTimes(1000, q())...), api.ErrBody},
		{api.Clause{}, api.ErrName},
		{rule(atom("says")), api.ErrName},
		{with(rule(by(ann, p()), q(), atom(long(33))), test(api.OpEq, a, a)), api.ErrName},
		{rule(p(nTimes(9, a)...)), api.ErrArity},
		{rule(by(ann, atom("b")), q(), q(nTimes(9, v(0))...)), api.ErrArity},
		{rule(by(num(5), p())), api.ErrBy},
		{rule(by(txt(""), p())), api.ErrBy},
		{rule(by(ann, p()), by(txt(""), q())), api.ErrBy},
		{rule(atom("y"), q(), by(v(-1), q())), api.ErrBy},
		{rule(p(none)), api.ErrTerm},
		{rule(by(ann, p(a)), q(a, txt(long(65)))), api.ErrTerm},
		{with(rule(p(a), q(v(leastInt))), test(api.OpLt, a, b)), api.ErrTerm},
		{with(ok, test(0, a, a)), api.ErrTest},
		{with(rule(by(ann, p(v(0))), q(v(0))), test(api.OpEq, a, a), test(api.OpEq, v(0), none)), api.ErrTest},
		{rule(by(v(0), p(v(0))), q(v(0))), api.ErrHead},
		{rule(p(v(0))), api.ErrSafe},
		{rule(by(ann, p(v(0)))), api.ErrSafe},
		{with(ok, test(api.OpNe, v(0), v(1))), api.ErrSafe},
		{rule(p(v(1)), q(v(1))), api.ErrNumbering},
		{rule(by(ann, atom("x")), q(v(greatestInt))), api.ErrNumbering},
	}
}

// TestNotValid: by Add and by Remove, with and without clauses.
func TestNotValid(t *testing.T) {
	w := watch(t)
	for range 2 {
		for _, x := range refusals() {
			w.refuseAdd(x.c, x.err)
			w.refuseRemove(x.c, x.err)
		}
		w.add("p(X) :- q(X).")
		w.addClause(clauseOf(t, "q(a)."))
	}
	w.wantFacts("p(a)", "q(a)")
}

// TestAddOfWhatIsKept: no change, however often; whatever came between.
func TestAddOfWhatIsKept(t *testing.T) {
	w := watch(t)
	cs := program(t, "q(a). p(X) :- q(X). ann says p(X) :- p(X), X != b. r :- W says p(W). p(c).")
	for range 3 {
		for _, c := range cs {
			w.addClause(c)
			for _, x := range w.clauses {
				if change := w.addClause(x); !noChange(change) {
					t.Errorf("P17.2: %v came with what is kept", change)
				}
			}
		}
	}
	w.wantFacts("p(a)", "p(c)", "ann says p(a)", "ann says p(c)", "q(a)")
}

// TestAddOfWhatIsDerived: a fact doesn't come again, by a clause of its own or another rule.
func TestAddOfWhatIsDerived(t *testing.T) {
	w := watchOf(t, "q(a). q(b). p(X) :- q(X).")
	w.add("p(a).")
	w.add("p(b) :- q(b).")
	w.add("p(X) :- q(X), q(Y).")
	w.add("p(X) :- p(X).")
	w.add("q(X) :- p(X).")
	w.add("p(c).", "p(c)", "q(c)")
	w.add("q(c).")
	w.wantClauses("p(a).", "p(b) :- q(b).", "p(c).", "p(V0) :- p(V0).", "p(V0) :- q(V0).", "p(V0) :- q(V0), q(V1).", "q(a).", "q(b).", "q(c).", "q(V0) :- p(V0).")
}

// TestAddOfWhatIsCovered: a clause that another one says all of is kept all the same: it stays when that one goes.
func TestAddOfWhatIsCovered(t *testing.T) {
	w := watchOf(t, "q(a, 1). q(b, 2). p(X) :- q(X, Y).")
	w.add("p(X) :- q(X, 1).")
	w.add("p(a) :- q(a, Y), q(Z, 2).")
	w.add("p(X) :- q(X, Y), Y != 7.")
	w.remove("p(X) :- q(X, Y).")
	w.remove("p(X) :- q(X, Y), Y != 7.", "p(b)")
	w.remove("p(X) :- q(X, 1).")
	w.remove("q(b, 2).", "p(a)", "q(b, 2)")
}

// TestAddOfFactsAndRules: what comes when the facts are the last to come, and when the rules are.
func TestAddOfFactsAndRules(t *testing.T) {
	w := watch(t)
	w.add("far(X) :- path(a, X), X != b.")
	w.add("path(X, Y) :- edge(X, Z), path(Z, Y).")
	w.add("path(X, Y) :- edge(X, Y).")
	w.add("edge(c, d).", "edge(c, d)", "path(c, d)")
	w.add("edge(a, b).", "edge(a, b)", "path(a, b)")
	w.add("edge(b, c).", "edge(b, c)", "far(c)", "far(d)", "path(a, c)", "path(a, d)", "path(b, c)", "path(b, d)")
	w.add("edge(d, b).", "edge(d, b)", "path(b, b)", "path(c, b)", "path(c, c)", "path(d, b)", "path(d, c)", "path(d, d)")
	w = watch(t)
	w.add("edge(c, d).", "edge(c, d)")
	w.add("edge(a, b).", "edge(a, b)")
	w.add("edge(b, c).", "edge(b, c)")
	w.add("path(X, Y) :- edge(X, Z), path(Z, Y).")
	w.add("path(X, Y) :- edge(X, Y).", "path(a, b)", "path(a, c)", "path(a, d)", "path(b, c)", "path(b, d)", "path(c, d)")
	w.add("far(X) :- path(a, X), X != b.", "far(c)", "far(d)")
}

// TestAddOfRecursiveClauses: of itself, through others, with itself twice.
func TestAddOfRecursiveClauses(t *testing.T) {
	w := watchOf(t, "p(a, b). p(b, c). p(c, d).")
	w.add("p(X, Y) :- p(X, Z), p(Z, Y).", "p(a, c)", "p(a, d)", "p(b, d)")
	w.add("p(X, Y) :- p(Y, X), X = d.", "p(a, a)", "p(b, a)", "p(b, b)", "p(c, a)", "p(c, b)", "p(c, c)", "p(d, a)", "p(d, b)", "p(d, c)", "p(d, d)")
	w = watchOf(t, "even(0). next(0, 1). next(1, 2). next(2, 3).")
	w.add("odd(Y) :- even(X), next(X, Y).", "odd(1)")
	w.add("even(Y) :- odd(X), next(X, Y).", "even(2)", "odd(3)")
	w.add("next(3, 0).", "next(3, 0)")
	w.add("next(2, 0).", "even(1)", "even(3)", "next(2, 0)", "odd(0)", "odd(2)")
}

// TestAddOfDoubledAtoms: the same atom twice, and one atom that is two facts.
func TestAddOfDoubledAtoms(t *testing.T) {
	w := watch(t)
	w.add("p(X) :- q(X), q(X).")
	w.add("r(X, Y) :- q(X), q(Y), q(X), q(Y).")
	w.add("s(X, Y) :- e(X, Z), e(Z, Y), e(X, Z).")
	w.add("q(a).", "p(a)", "q(a)", "r(a, a)")
	w.add("q(b).", "p(b)", "q(b)", "r(a, b)", "r(b, a)", "r(b, b)")
	w.add("e(a, a).", "e(a, a)", "s(a, a)")
	w.add("e(a, b).", "e(a, b)", "s(a, b)")
	w.add("t :- q(a), q(a), q(a), q(a), q(a), q(a), q(a), q(a).", "t")
}

// TestAddOfTests: such as hold, such as don't, with variables and without.
func TestAddOfTests(t *testing.T) {
	w := watch(t)
	w.add("p :- 1 < 2.", "p")
	w.add("q :- 2 < 1.")
	w.add("r :- a = a, 1 < a, a <= a, a != b.", "r")
	w.add("s(X) :- n(X), X < 3, 1 != X.")
	w.add("d(X, Y) :- n(X), n(Y), X < Y.")
	w.add("n(1).", "n(1)")
	w.add("n(2).", "d(1, 2)", "n(2)", "s(2)")
	w.add("n(b).", "d(1, b)", "d(2, b)", "n(b)")
	w.add("n(3).", "d(1, 3)", "d(2, 3)", "d(3, b)", "n(3)")
	w.add("q :- n(X), X = b.", "q")
}

// TestAddOfQualifiers: none, principals and variables, in heads and bodies.
func TestAddOfQualifiers(t *testing.T) {
	w := watch(t)
	w.add("ann says ok(X) :- W says good(X).")
	w.add("ok(X) :- good(X).")
	w.add("trusted(W) :- W says good(W).")
	w.add("both(X) :- W says good(X), W says ok(X).")
	w.add("r(X) :- q(X), X says good(a).")
	w.add("good(a).", "good(a)", "ok(a)")
	w.add("bob says good(b).", "bob says good(b)", "ann says ok(b)")
	w.add("ann says good(ann).", "both(ann)", "ann says good(ann)", "ann says ok(ann)", "trusted(ann)")
	// No one is named by a number or the empty text.
	w.add("q(5).", "q(5)")
	w.add(`q("").`, `q("")`)
	w.add("q(bob).", "q(bob)")
	w.add("bob says good(a).", "bob says good(a)", "ann says ok(a)", "r(bob)")
}
