package upkeep_test

import (
	"slices"
	"strconv"
	"testing"

	"hearsay/api"
)

// P17.3: Remove.

// TestRemoveOfWhatIsNotKept: never was, was, is derived, is a part of what is kept.
func TestRemoveOfWhatIsNotKept(t *testing.T) {
	w := watchOf(t, "q(a). p(X) :- q(X). ann says p(b). r :- q(a), p(a).")
	for _, text := range texts("q(b).", "p(a).", "r.", "p(b).", "ann says q(a).", "p(X) :- q(X), q(X).", "p(X) :- q(X), X = X.", "p(a) :- q(a).", "r :- p(a), q(a).", "r :- q(a).", "p(X, Y) :- q(X), q(Y).") {
		w.refuseRemove(clauseOf(t, text), api.ErrNotKept)
	}
	w.remove("q(a).", "p(a)", "q(a)", "r")
	w.refuseRemove(clauseOf(t, "q(a)."), api.ErrNotKept)
	w.remove("r :- q(a), p(a).")
	w.refuseRemove(clauseOf(t, "r :- q(a), p(a)."), api.ErrNotKept)
	w.wantClauses("p(V0) :- q(V0).", "ann says p(b).")
}

// TestStillAClause: a fact that is derived and a clause of its own goes with the last of the two.
func TestStillAClause(t *testing.T) {
	w := watchOf(t, "q(a). p(a). p(X) :- q(X).")
	w.remove("q(a).", "q(a)")
	w.remove("p(a).", "p(a)")
	w = watchOf(t, "q(a). p(a). p(X) :- q(X).")
	w.remove("p(a).")
	w.remove("q(a).", "p(a)", "q(a)")
	w = watchOf(t, "q(a). p(a). p(X) :- q(X). r(X) :- p(X).")
	w.remove("p(X) :- q(X).")
	w.remove("p(a).", "p(a)", "r(a)")
}

// TestStillByAnotherRule: and what leans on it stays with it.
func TestStillByAnotherRule(t *testing.T) {
	w := watchOf(t, "p :- q. p :- r. q. r. s :- p. u :- s, q. u :- s, r.")
	w.remove("q.", "q")
	w.remove("r.", "p", "r", "s", "u")
	w.add("r.", "p", "r", "s", "u")
	w.add("q.", "q")
	w.remove("p :- q.")
	w.remove("u :- s, q.")
	w.remove("p :- r.", "p", "s", "u")
	w.add("p :- q.", "p", "s", "u")
	w.remove("q.", "p", "q", "s", "u")
}

// TestStillByOtherFacts: of the same rule.
func TestStillByOtherFacts(t *testing.T) {
	w := watchOf(t, "p(X) :- e(X, Y), Y != 4. e(a, 1). e(a, 2). e(a, 3). e(a, 4). e(b, 1). any :- p(X).")
	w.remove("e(a, 2).", "e(a, 2)")
	w.remove("e(a, 1).", "e(a, 1)")
	w.remove("e(a, 3).", "e(a, 3)", "p(a)")
	w.remove("e(a, 4).", "e(a, 4)")
	w.remove("e(b, 1).", "any", "e(b, 1)", "p(b)")
	w = watchOf(t, "path(X, Y) :- edge(X, Y). path(X, Y) :- edge(X, Z), path(Z, Y). edge(a, b). edge(a, c). edge(b, d). edge(c, d). edge(d, e).")
	w.remove("edge(b, d).", "edge(b, d)", "path(b, d)", "path(b, e)")
	w.remove("edge(c, d).", "edge(c, d)", "path(a, d)", "path(a, e)", "path(c, d)", "path(c, e)")
}

// TestCirclesOfOne: a fact that leans on itself.
func TestCirclesOfOne(t *testing.T) {
	w := watchOf(t, "p(X) :- p(X). p(a). p(b).")
	w.remove("p(a).", "p(a)")
	w.wantFacts("p(b)")
	w = watchOf(t, "p(X) :- p(X), q(X). q(a). p(a). p(X) :- p(X), p(Y).")
	w.remove("p(a).", "p(a)")
	w = watchOf(t, "ann says p(X) :- W says p(X). ann says p(a). ann says p(b). bob says p(b).")
	w.remove("ann says p(a).", "ann says p(a)")
	w.remove("ann says p(b).")
	w.remove("bob says p(b).", "ann says p(b)", "bob says p(b)")
}

// ring: c0 :- c1. c1 :- c2. .. and so round.
func ring(size int) string {
	text := ""
	for i := range size {
		text += "c" + strconv.Itoa(i) + " :- c" + strconv.Itoa((i+1)%size) + ". "
	}
	return text
}

// TestCirclesOfMore: of two to nine facts; all go with the one thing that held them.
func TestCirclesOfMore(t *testing.T) {
	for size := 2; size < 10; size++ {
		var all []string
		for i := range size {
			all = append(all, "c"+strconv.Itoa(i))
		}
		w := watchOf(t, ring(size)+"c0 :- out.")
		w.wantFacts()
		for i := range size {
			fact := "c" + strconv.Itoa(i) + "."
			w.add(fact, all...)
			w.remove(fact, all...)
		}
		w.add("out.", append(slices.Clone(all), "out")...)
		// Something inside holds them as well, and something outside: the last one takes them along.
		w.add("c1.")
		w.remove("out.", "out")
		w.add("out.", "out")
		w.remove("c1.")
		w.remove("c0 :- out.", all...)
	}
}

// TestCirclesOfPaths: a circle of edges holds itself from no edge less.
func TestCirclesOfPaths(t *testing.T) {
	w := watchOf(t, "path(X, Y) :- edge(X, Y). path(X, Y) :- path(X, Z), path(Z, Y). edge(a, b). edge(b, c). edge(c, a).")
	w.remove("edge(c, a).", "edge(c, a)", "path(a, a)", "path(b, a)", "path(b, b)", "path(c, a)", "path(c, b)", "path(c, c)")
	w.add("edge(b, a).", "edge(b, a)", "path(a, a)", "path(b, a)", "path(b, b)")
	w.remove("edge(a, b).", "edge(a, b)", "path(a, a)", "path(a, b)", "path(a, c)", "path(b, b)")
	w.remove("path(X, Y) :- edge(X, Y).", "path(b, a)", "path(b, c)")
	w.wantFacts("edge(b, a)", "edge(b, c)")
}

// TestCirclesThatShareAFact: each is held through the shared one, from either side.
func TestCirclesThatShareAFact(t *testing.T) {
	const eight = "m :- l. l :- m. m :- r. r :- m. "
	w := watchOf(t, eight+"l. r.")
	w.remove("l.")
	w.remove("r.", "l", "m", "r")
	w = watchOf(t, eight+"l. r.")
	w.remove("m :- r.")
	w.remove("l.", "l", "m")
	w.wantFacts("r")
	w = watchOf(t, eight+"m.")
	w.remove("l :- m.", "l")
	w.remove("m.", "m", "r")
	// Two that hold each other need both atoms.
	w = watchOf(t, "x :- y, z. y :- x. z :- x. y. z. x.")
	w.remove("y.")
	w.remove("z.")
	w.remove("x.", "x", "y", "z")
	w = watchOf(t, "x :- y, z. y :- x. z :- x. y. z.")
	w.remove("y.", "x", "y")
}

// TestRulesOfSeveralRounds: a rule goes whose facts several rounds found.
func TestRulesOfSeveralRounds(t *testing.T) {
	const base, step = "path(X, Y) :- edge(X, Y). ", "path(X, Y) :- edge(X, Z), path(Z, Y). "
	const edges = "edge(a, b). edge(b, c). edge(c, d). edge(d, e). "
	w := watchOf(t, base+step+edges+"long :- path(a, e). start(X) :- path(X, Y).")
	w.remove(step, "long", "path(a, c)", "path(a, d)", "path(a, e)", "path(b, d)", "path(b, e)", "path(c, e)")
	w.remove(base, "path(a, b)", "path(b, c)", "path(c, d)", "path(d, e)", "start(a)", "start(b)", "start(c)", "start(d)")
	w.add(step)
	w.add("path(d, e).", "long", "path(a, e)", "path(b, e)", "path(c, e)", "path(d, e)", "start(a)", "start(b)", "start(c)", "start(d)")
	w.remove(step, "long", "path(a, e)", "path(b, e)", "path(c, e)", "start(a)", "start(b)", "start(c)")
	w = watchOf(t, "n(0). n(Y) :- n(X), next(X, Y). next(0, 1). next(1, 2). next(2, 3). next(3, 4). n(3).")
	w.remove("next(1, 2).", "n(2)", "next(1, 2)")
	w.remove("n(0).", "n(0)", "n(1)")
	w.remove("n(Y) :- n(X), next(X, Y).", "n(4)")
}

// TestRemoveOfDoubledAtoms: an instance goes though its fact stands in it several times.
func TestRemoveOfDoubledAtoms(t *testing.T) {
	w := watchOf(t, "p(X) :- q(X), q(X). r(X, Y) :- q(X), q(Y), q(X). s(X, Y) :- e(X, Z), e(Z, Y), e(X, Z). q(a). q(b). e(a, a). e(a, b).")
	w.remove("q(b).", "p(b)", "q(b)", "r(a, b)", "r(b, a)", "r(b, b)")
	w.remove("e(a, a).", "e(a, a)", "s(a, a)", "s(a, b)")
	w.remove("q(a).", "p(a)", "q(a)", "r(a, a)")
	w = watchOf(t, "p :- q(X), q(Y). q(1). q(2).")
	w.remove("q(1).", "q(1)")
	w.remove("q(2).", "p", "q(2)")
}

// TestRemoveOfTests: what a test kept away holds nothing.
func TestRemoveOfTests(t *testing.T) {
	w := watchOf(t, "p(X) :- n(X, Y), X < Y. n(1, 2). n(1, 1). n(1, a). n(2, 1). q :- 1 < 2. q :- 2 < 1.")
	w.remove("n(1, 2).", "n(1, 2)")
	w.remove("n(1, a).", "n(1, a)", "p(1)")
	w.remove("q :- 2 < 1.")
	w.remove("q :- 1 < 2.", "q")
	w = watchOf(t, "d(X, Y) :- n(X), n(Y), X != Y. n(1). n(2). n(3).")
	w.remove("n(2).", "d(1, 2)", "d(2, 1)", "d(2, 3)", "d(3, 2)", "n(2)")
}

// TestRemoveOfQualifiers: none, principals and variables, in heads and bodies.
func TestRemoveOfQualifiers(t *testing.T) {
	w := watchOf(t, "ann says ok(X) :- W says good(X). ok(X) :- good(X). ann says good(a). bob says good(a). good(a). trusted(W) :- W says good(X), known(W). known(bob). known(5). known(\"\").")
	w.wantFacts("good(a)", "ann says good(a)", "bob says good(a)", `known(5)`, `known("")`, "known(bob)", "ok(a)", "ann says ok(a)", "trusted(bob)")
	w.remove("ann says good(a).", "ann says good(a)")
	w.remove("known(5).", "known(5)")
	w.remove(`known("").`, `known("")`)
	w.remove("bob says good(a).", "bob says good(a)", "ann says ok(a)", "trusted(bob)")
	w.remove("good(a).", "good(a)", "ok(a)")
	w = watchOf(t, "ann says p(X) :- bob says p(X). bob says p(X) :- ann says p(X). ann says p(1). p(X) :- W says p(X), X != 2.")
	w.remove("ann says p(1).", "p(1)", "ann says p(1)", "bob says p(1)")
}

// TestHeadsWithConstants: and with one variable in several places; what gives a fact is asked by its whole head.
func TestHeadsWithConstants(t *testing.T) {
	w := watchOf(t, "s(X, X) :- d(X). s(a, X) :- c(X). s(X, Y) :- e(X, Y). d(a). c(a). e(a, a). e(a, b). c(b). d(b).")
	w.remove("e(a, a).", "e(a, a)")
	w.remove("c(a).", "c(a)")
	w.remove("d(a).", "d(a)", "s(a, a)")
	w.remove("c(b).", "c(b)")
	w.remove("e(a, b).", "e(a, b)", "s(a, b)")
	w.remove("d(b).", "d(b)", "s(b, b)")
	w.wantFacts()
}

// TestPredicatesOfOneName: p and p(a), said by nobody and by someone, have nothing to do with one another.
func TestPredicatesOfOneName(t *testing.T) {
	w := watchOf(t, "p. p(a). p(a, a). ann says p. ann says p(a). q :- p. q(X) :- p(X). q(X, Y) :- p(X, Y). ann says q :- ann says p. ann says q(X) :- ann says p(X).")
	w.remove("p(a).", "p(a)", "q(a)")
	w.remove("ann says p.", "ann says p", "ann says q")
	w.remove("p.", "p", "q")
	w.remove("p(a, a).", "p(a, a)", "q(a, a)")
	w.wantFacts("ann says p(a)", "ann says q(a)")
}
