package goal_test

import (
	"slices"
	"testing"

	"hearsay/api"
	"hearsay/eval"
)

// R7: just as many as the limits let in, and one more.

// wantSize: so many goals, and so many answers in all.
func wantSize(t *testing.T, cs []api.Clause, text string, goals, answers int) {
	t.Helper()
	x := query(t, text)
	if g, n := goalsOf(t, cs, x); g != goals || n != answers {
		t.Errorf("P16.1: %s of %d clauses: %d goals, %d answers, want %d and %d", text, len(cs), g, n, goals, answers)
	}
}

// TestMostClauses: doubles count once; what the query doesn't ask for counts, too.
func TestMostClauses(t *testing.T) {
	cs := numbered("n", 0, 1001)
	full := cs[:1000]
	for _, l := range [][]api.Clause{full, slices.Concat(full, full), slices.Concat(full, full[500:], full[:3])} {
		wantAsk(t, l, "n(999)", "n(999)")
		wantAsk(t, l, "n(1000)")
		wantSize(t, l, "n(X)", 1, 1000)
		wantSize(t, l, "other", 1, 0)
	}
	for _, l := range [][]api.Clause{cs, slices.Concat(cs, cs), plus(full, rule(q())), plus(full, rule(by(ann, atom("n", num(3))))), plus(full, rule(q(), q()))} {
		for _, x := range atoms(atom("n", num(999)), atom("n", v(0)), atom("other")) {
			wantErr(t, l, x, api.ErrMany)
		}
	}
	// The same but for the order of the atoms: two clauses.
	two := program(t, "q :- n(1), n(2). q :- n(2), n(1).")
	wantAsk(t, slices.Concat(cs[:998], two), "q", "q")
	wantErr(t, slices.Concat(cs[:999], two), q(), api.ErrMany)
}

// TestMostGoals: just 2000, and one more.
func TestMostGoals(t *testing.T) {
	cs := slices.Concat(numbered("n", 0, 666), program(t, "p :- n(X), s(X). s(X) :- u(X). u(X) :- w(X). over :- p."))
	wantSize(t, cs, "p", 2000, 666)
	wantAsk(t, cs, "p")
	wantErr(t, cs, query(t, "over"), api.ErrCalls)
	// A goal that another one covers, and has its answers, is one more.
	wantErr(t, plus(cs, program(t, "p :- n(7).")...), p(), api.ErrCalls)
	wantErr(t, plus(cs, program(t, "p :- X says n(7).")...), p(), api.ErrCalls)
	wantErr(t, plus(cs, program(t, "w(5) :- extra.")...), p(), api.ErrCalls)
	// What isn't reached, and what was asked already, isn't.
	wantSize(t, plus(cs, program(t, "p :- 2 < 1, extra. p :- n(Y), w(Y), extra. other :- extra. p :- s(0), u(0). w(5) :- p, p.")...), "p", 2000, 666)
	wantErr(t, plus(cs, program(t, "n(666).")...), p(), api.ErrCalls)
	wantSize(t, cs[1:], "over", 1998, 665)
}

// TestMostGoalsWithoutAnswers: those whose qualifier can't be one count as well.
func TestMostGoalsWithoutAnswers(t *testing.T) {
	cs := slices.Concat(numbered("n", 0, 666), program(t, "p :- n(X), X says s. p :- n(X), X says t. p :- n(X), X says u. over :- p."))
	wantSize(t, cs, "p", 2000, 666)
	wantErr(t, cs, query(t, "over"), api.ErrCalls)
}

// squares: so many facts d, all pairs of them, and so many facts more.
func squares(t *testing.T, d, more int) []api.Clause {
	t.Helper()
	return slices.Concat(numbered("d", 0, d), numbered("more", 0, more), program(t, "pair(X, Y) :- d(X), d(Y). one :- pair(X, Y). one :- more(X). two :- pair(X, Y). two :- pair(5, X). two :- more(X)."))
}

// TestMostAnswers: just 5000 in all, and one more.
func TestMostAnswers(t *testing.T) {
	wantSize(t, squares(t, 70, 0), "pair(X, Y)", 2, 4970)
	wantErr(t, squares(t, 71, 0), query(t, "pair(X, Y)"), api.ErrCalls)
	// 1 of one, 4900 of pair, 70 of d, 29 of more.
	wantSize(t, squares(t, 70, 29), "one", 4, 5000)
	wantAsk(t, squares(t, 70, 29), "one", "one")
	wantErr(t, squares(t, 70, 30), query(t, "one"), api.ErrCalls)
	// What isn't asked for doesn't count.
	wantSize(t, squares(t, 70, 900), "pair(X, Y)", 2, 4970)
}

// TestMostAnswersOfSeveralGoals: an answer of two goals counts twice.
func TestMostAnswersOfSeveralGoals(t *testing.T) {
	// 1 of two, 4761 of pair, 69 of d, 69 of pair(5, V0), 1 of d(5), 99 of more.
	cs := squares(t, 69, 99)
	wantSize(t, cs, "two", 6, 5000)
	wantErr(t, squares(t, 69, 100), query(t, "two"), api.ErrCalls)
	// Each fact counted once there are fewer, so a model is made: it is Ask that is refused.
	m, err := eval.Whole(squares(t, 69, 100))
	if len(m.Facts) != 69+100+69*69+2 || err != api.OK {
		t.Errorf("Whole has %d facts, %d", len(m.Facts), err)
	}
}

// TestMoreThanAModelHasRoomFor: P16.3: a query is answered where Whole is refused by ErrFacts.
func TestMoreThanAModelHasRoomFor(t *testing.T) {
	cs := slices.Concat(numbered("n", 0, 10), program(t, "p(A, B, C, D) :- n(A), n(B), n(C), n(D). other(X) :- n(X), 7 < X. ann says n(X) :- p(X, X, 1, X)."))
	if _, err := eval.Whole(cs); err != api.ErrFacts {
		t.Fatalf("Whole answers %d", err)
	}
	wantTable(t, cs, "other(X)", "n(V0): n(0), n(1), n(2), n(3), n(4), n(5), n(6), n(7), n(8), n(9)", "other(V0): other(8), other(9)")
	wantTable(t, cs, "p(3, 4, 5, 10)", "n(3): n(3)", "n(4): n(4)", "n(5): n(5)", "n(10): ", "p(3, 4, 5, 10): ")
	wantAsk(t, cs, "X says n(7)", "ann says n(7)")
	wantSize(t, cs, "p(A, B, C, 1)", 3, 1000+10+1)
	wantSize(t, cs, "p(A, A, A, A)", 12, 10+10+10)
	wantErr(t, cs, query(t, "p(A, B, C, D)"), api.ErrCalls)
}

// TestMoreWaysThanCanBeGoneThrough: a table that is too great is told so, however many ways there are; and ways that are alike from some atom on are gone through once.
func TestMoreWaysThanCanBeGoneThrough(t *testing.T) {
	eight := "n(A), n(B), n(C), n(D), n(E), n(F), n(G), n(H)"
	cs := slices.Concat(numbered("n", 0, 900), program(t, "all(A, B, C, D, E, F, G, H) :- "+eight+". any :- "+eight+". last(H) :- "+eight+", H < 2. g :- n(A), n(B), n(C), n(D), n(E), n(F), n(G), s(A, B, C, D, E, F, G)."))
	wantErr(t, cs, query(t, "all(A, B, C, D, E, F, G, H)"), api.ErrCalls)
	wantErr(t, cs, query(t, "g"), api.ErrCalls)
	wantTable(t, cs[895:], "any", "any: any", "n(V0): n(895), n(896), n(897), n(898), n(899)")
	wantAsk(t, cs, "any", "any")
	wantAsk(t, cs, "last(X)", "last(0)", "last(1)")
	wantAsk(t, cs, "all(1, 2, 3, 4, 5, 6, 7, 899)", "all(1, 2, 3, 4, 5, 6, 7, 899)")
}
