package goal_test

import (
	"slices"
	"testing"

	"hearsay/api"
)

// The examples of chapter 16, by their numbers.

const paths = "edge(a, b). edge(b, c). path(X, Y) :- edge(X, Y). path(X, Y) :- edge(X, Z), path(Z, Y)."

func TestExample1(t *testing.T) {
	cs := program(t, paths)
	wantAnswers(t, cs, atom("path", a, v(7)), "path(a, b)", "path(a, c)")
	wantTable(t, cs, "path(a, X7)",
		"edge(a, V0): edge(a, b)", "edge(b, V0): edge(b, c)", "edge(c, V0): ",
		"path(a, V0): path(a, b), path(a, c)", "path(b, V0): path(b, c)", "path(c, V0): ")
}

func TestExample2(t *testing.T) {
	cs := program(t, paths)
	wantAsk(t, cs, "path(X0, c)", "path(a, c)", "path(b, c)")
	wantTable(t, cs, "path(X0, c)",
		"edge(b, c): edge(b, c)", "edge(b, V0): edge(b, c)", "edge(c, c): ", "edge(c, V0): ", "edge(V0, c): edge(b, c)", "edge(V0, V1): edge(a, b), edge(b, c)",
		"path(b, c): path(b, c)", "path(c, c): ", "path(V0, c): path(a, c), path(b, c)")
}

func TestExample3(t *testing.T) {
	wantAsk(t, nil, "q(a)")
	wantTable(t, nil, "q(a)", "q(a): ")
}

func TestExample4(t *testing.T) {
	cs := program(t, "p(X) :- q(X), X != a. q(a). q(b).")
	wantAsk(t, cs, "p(a)")
	wantTable(t, cs, "p(a)", "p(a): ")
	wantAsk(t, cs, "p(X0)", "p(b)")
	wantTable(t, cs, "p(X0)", "p(V0): p(b)", "q(V0): q(a), q(b)")
}

func TestExample5(t *testing.T) {
	wantTable(t, program(t, "p :- 1 < 2, q. q."), "p", "p: p", "q: q")
	wantTable(t, program(t, "p :- 2 < 1, q. q."), "p", "p: ")
}

func TestExample6(t *testing.T) {
	cs := program(t, "ann says ok(X) :- Y says good(X). good(a). bob says good(b).")
	wantAnswers(t, cs, by(v(5), atom("ok", v(2))), "ann says ok(b)")
	wantTable(t, cs, "X5 says ok(X2)", "V0 says good(V1): bob says good(b)", "V0 says ok(V1): ann says ok(b)")
	wantTable(t, cs, "ok(X0)", "ok(V0): ")
}

func TestExample7(t *testing.T) {
	cs := program(t, "same(X, X) :- d(X). d(1). d(2).")
	wantAnswers(t, cs, atom("same", v(3), v(4)), "same(1, 1)", "same(2, 2)")
	wantTable(t, cs, "same(X3, X4)", "d(V0): d(1), d(2)", "same(V0, V1): same(1, 1), same(2, 2)")
	wantAnswers(t, cs, atom("same", v(3), v(3)), "same(1, 1)", "same(2, 2)")
	wantTable(t, cs, "same(X3, X3)", "d(V0): d(1), d(2)", "same(V0, V0): same(1, 1), same(2, 2)")
	wantTable(t, cs, "same(1, 2)", "same(1, 2): ")
}

func TestExample8(t *testing.T) {
	cs := slices.Concat(numbered("n", 0, 10), program(t, "p(A, B, C, D) :- n(A), n(B), n(C), n(D)."))
	wantTable(t, cs, "p(1, 2, 3, 4)", "n(1): n(1)", "n(2): n(2)", "n(3): n(3)", "n(4): n(4)", "p(1, 2, 3, 4): p(1, 2, 3, 4)")
	wantErr(t, cs, query(t, "p(X0, X1, X2, X3)"), api.ErrCalls)
}

func TestExample9(t *testing.T) {
	wantErr(t, rules(rule(p(v(0)))), atom("Q"), api.ErrSafe)
	wantErr(t, rules(rule(p(a))), atom("Q"), api.ErrName)
	wantErr(t, plus(numbered("n", 0, 2000), rule(p(a), atom("P"))), p(a), api.ErrName)
}

// The chapter's word on a qualifier that has become a number.
func TestExampleOfRule3(t *testing.T) {
	wantTable(t, program(t, "r(V0) :- q(V0), V0 says s. q(5)."), "r(X0)", "q(V0): q(5)", "r(V0): ", "5 says s: ")
}
