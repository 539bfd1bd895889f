package goal_test

import (
	"slices"
	"testing"

	"hearsay/api"
)

// P16.1, P16.2: the tables of clauses of every kind, worked by hand.

func TestNoClauses(t *testing.T) {
	wantTable(t, nil, "p", "p: ")
	wantTable(t, nil, "p(X, Y, X)", "p(V0, V1, V0): ")
	wantTable(t, nil, "ann says p(\"\")", "ann says p(\"\"): ")
	wantTable(t, nil, "X says p(Y, X)", "V0 says p(V1, V0): ")
}

func TestFactsAlone(t *testing.T) {
	cs := program(t, "p. p(a). p(b). p(1). p(\"1\"). p(\"\"). p(-1). p(a, b). p(b, b). q(a). ann says p(a). bob says p(a). ann says p.")
	wantTable(t, cs, "p", "p: p")
	wantTable(t, cs, "p(b)", "p(b): p(b)")
	wantTable(t, cs, "p(c)", "p(c): ")
	// In the order of constants: numbers, then texts.
	wantTable(t, cs, "p(X)", "p(V0): p(-1), p(1), p(\"\"), p(\"1\"), p(a), p(b)")
	wantTable(t, cs, "p(X, Y)", "p(V0, V1): p(a, b), p(b, b)")
	wantTable(t, cs, "p(X, X)", "p(V0, V0): p(b, b)")
	wantTable(t, cs, "p(X, Y, Z)", "p(V0, V1, V2): ")
	wantTable(t, cs, "ann says p(X)", "ann says p(V0): ann says p(a)")
	wantTable(t, cs, "X says p(Y)", "V0 says p(V1): ann says p(a), bob says p(a)")
	wantTable(t, cs, "X says p", "V0 says p: ann says p")
	wantTable(t, cs, "r", "r: ")
}

func TestWidestAtoms(t *testing.T) {
	cs := program(t, "ann says p(1, 2, 3, 4, 5, 6, 7, 8). ann says p(1, 1, 1, 1, 1, 1, 1, 1). r(A, B, C, D, E, F, G, H) :- I says p(A, B, C, D, E, F, G, H), I != bob.")
	wantTable(t, cs, "r(A, B, C, D, E, F, G, H)",
		"V0 says p(V1, V2, V3, V4, V5, V6, V7, V8): ann says p(1, 1, 1, 1, 1, 1, 1, 1), ann says p(1, 2, 3, 4, 5, 6, 7, 8)",
		"r(V0, V1, V2, V3, V4, V5, V6, V7): r(1, 1, 1, 1, 1, 1, 1, 1), r(1, 2, 3, 4, 5, 6, 7, 8)")
	wantTable(t, cs, "I says p(A, B, C, D, E, F, G, H)", "V0 says p(V1, V2, V3, V4, V5, V6, V7, V8): ann says p(1, 1, 1, 1, 1, 1, 1, 1), ann says p(1, 2, 3, 4, 5, 6, 7, 8)")
	wantTable(t, cs, "r(A, A, B, B, A, C, C, D)",
		"V0 says p(V1, V1, V2, V2, V1, V3, V3, V4): ann says p(1, 1, 1, 1, 1, 1, 1, 1)",
		"r(V0, V0, V1, V1, V0, V2, V2, V3): r(1, 1, 1, 1, 1, 1, 1, 1)")
	// A goal with nine variables, of a clause with variables of its own in all places of its head.
	cs = program(t, "bob says w(A, B, C, D, E, F, G, H) :- I says p(H, G, F, E, D, C, B, A), I != bob. ann says p(1, 2, 3, 4, 5, 6, 7, 8).")
	wantTable(t, cs, "I says w(A, B, C, D, E, F, G, H)",
		"V0 says p(V1, V2, V3, V4, V5, V6, V7, V8): ann says p(1, 2, 3, 4, 5, 6, 7, 8)",
		"V0 says w(V1, V2, V3, V4, V5, V6, V7, V8): bob says w(8, 7, 6, 5, 4, 3, 2, 1)")
}

// TestMostVariables: a clause with 72 of them, each of which stands for another number; it is tried at each of its atoms.
func TestMostVariables(t *testing.T) {
	var c api.Clause
	var cs []api.Clause
	for i := range 8 {
		x, f := api.Atom{By: v(9 * i), Name: "s"}, api.Atom{By: txt("u" + string(rune('0'+i))), Name: "s"}
		for k := range 8 {
			x.Args = append(x.Args, v(9*i+k+1))
			f.Args = append(f.Args, num(10*i+k))
		}
		x.Args[7], f.Args[7] = v(9*i+8), num(i) // which of the facts it is
		c.Body = append(c.Body, x)
		c.Tests = append(c.Tests, test(api.OpEq, v(9*i+8), num(i)))
		cs = append(cs, rule(f))
	}
	c.Head = atom("all", v(0), v(8), v(9), v(10), v(60), v(63), v(70), v(71))
	c = normal(c)
	answer := "all(u0, 0, u1, 10, 65, u7, 76, 7)"
	wantAsk(t, append(cs, c), "all(A, B, C, D, E, F, G, H)", answer)
	wantAsk(t, append(cs, c), "all(A, B, C, 10, E, u7, G, H)", answer)
	wantAsk(t, append(cs, c), "all(A, B, C, D, E, A, G, H)")
}

// normal: the clause's variables numbered as they first stand there.
func normal(c api.Clause) api.Clause {
	var vars []api.Term
	return eachOfAll(c, func(x api.Term) api.Term {
		if !variable(x) {
			return x
		}
		if !slices.Contains(vars, x) {
			vars = append(vars, x)
		}
		return v(slices.Index(vars, x))
	})
}

func TestRightRecursion(t *testing.T) {
	cs := program(t, "e(a, b). e(b, a). t(X, Y) :- e(X, Y). t(X, Y) :- e(X, Z), t(Z, Y).")
	wantTable(t, cs, "t(a, X)", "e(a, V0): e(a, b)", "e(b, V0): e(b, a)", "t(a, V0): t(a, a), t(a, b)", "t(b, V0): t(b, a), t(b, b)")
	wantTable(t, cs, "t(a, a)", "e(a, a): ", "e(a, V0): e(a, b)", "e(b, a): e(b, a)", "e(b, V0): e(b, a)", "t(a, a): t(a, a)", "t(b, a): t(b, a)")
	wantTable(t, cs, "t(X, X)",
		"e(a, a): ", "e(a, b): e(a, b)", "e(a, V0): e(a, b)", "e(b, a): e(b, a)", "e(b, b): ", "e(b, V0): e(b, a)", "e(V0, V0): ", "e(V0, V1): e(a, b), e(b, a)",
		"t(a, a): t(a, a)", "t(a, b): t(a, b)", "t(b, a): t(b, a)", "t(b, b): t(b, b)", "t(V0, V0): t(a, a), t(b, b)")
}

func TestLeftRecursion(t *testing.T) {
	cs := program(t, "e(a, b). e(b, c). e(d, a). t(X, Y) :- e(X, Y). t(X, Y) :- t(X, Z), e(Z, Y).")
	wantTable(t, cs, "t(a, X)", "e(a, V0): e(a, b)", "e(b, V0): e(b, c)", "e(c, V0): ", "t(a, V0): t(a, b), t(a, c)")
	wantTable(t, cs, "t(a, c)", "e(a, c): ", "e(a, V0): e(a, b)", "e(b, c): e(b, c)", "e(b, V0): e(b, c)", "e(c, c): ", "e(c, V0): ", "t(a, c): t(a, c)", "t(a, V0): t(a, b), t(a, c)")
	wantTable(t, program(t, "p :- p."), "p", "p: ")
	wantTable(t, program(t, "p(X) :- p(X)."), "p(X)", "p(V0): ")
	wantTable(t, program(t, "p(X, Y) :- p(Y, X)."), "p(X, a)", "p(a, V0): ", "p(V0, a): ")
	wantTable(t, program(t, "p(X, Y) :- p(Y, X). p(a, b)."), "p(X, a)", "p(a, V0): p(a, b)", "p(V0, a): p(b, a)")
}

// TestBothRecursions: at one time, in one clause, in two, and by way of one another.
func TestBothRecursions(t *testing.T) {
	ring := "e(a, b). e(b, a). t(X, Y) :- e(X, Y). "
	all := texts("e(a, V0): e(a, b)", "e(b, V0): e(b, a)", "t(a, V0): t(a, a), t(a, b)", "t(b, V0): t(b, a), t(b, b)")
	wantTable(t, program(t, ring+"t(X, Y) :- t(X, Z), t(Z, Y)."), "t(a, X)", all...)
	wantTable(t, program(t, ring+"t(X, Y) :- e(X, Z), t(Z, Y). t(X, Y) :- t(X, Z), e(Z, Y)."), "t(a, X)", all...)
	cs := program(t, "p(X) :- q(X). q(X) :- p(X). q(1). r(2).")
	wantTable(t, cs, "p(X)", "p(V0): p(1)", "q(V0): q(1)")
	wantTable(t, cs, "q(2)", "p(2): ", "q(2): ")
	cs = program(t, "even(0). even(X) :- next(Y, X), odd(Y). odd(X) :- next(Y, X), even(Y). next(0, 1). next(1, 2). next(2, 3).")
	wantTable(t, cs, "even(2)", "even(0): even(0)", "even(2): even(2)", "next(V0, 0): ", "next(V0, 1): next(0, 1)", "next(V0, 2): next(1, 2)", "odd(1): odd(1)")
}

// TestAnswersThatComeLate: behind what waits for them, by way of a goal's own answers.
func TestAnswersThatComeLate(t *testing.T) {
	cs := program(t, "n(0). n(Y) :- n(X), s(X, Y). s(0, 1). s(1, 2). s(2, 3). two(X, Y) :- n(X), n(Y), X < Y.")
	wantTable(t, cs, "n(X)", "n(V0): n(0), n(1), n(2), n(3)", "s(0, V0): s(0, 1)", "s(1, V0): s(1, 2)", "s(2, V0): s(2, 3)", "s(3, V0): ")
	wantAsk(t, cs, "two(X, Y)", "two(0, 1)", "two(0, 2)", "two(0, 3)", "two(1, 2)", "two(1, 3)", "two(2, 3)")
	wantAsk(t, cs, "two(X, 2)", "two(0, 2)", "two(1, 2)")
}

// TestDoubledAtoms: at its second place an atom may be another goal.
func TestDoubledAtoms(t *testing.T) {
	wantTable(t, program(t, "p :- q, q. q."), "p", "p: p", "q: q")
	wantTable(t, program(t, "p(X) :- q(X), q(X). q(a). q(b)."), "p(X)", "p(V0): p(a), p(b)", "q(a): q(a)", "q(b): q(b)", "q(V0): q(a), q(b)")
	wantTable(t, program(t, "p(X) :- q(X), q(X). q(a). q(b)."), "p(b)", "p(b): p(b)", "q(b): q(b)")
	wantTable(t, program(t, "p(X, Y) :- q(X), q(Y), q(X). q(a). q(b)."), "p(X, b)", "p(V0, b): p(a, b), p(b, b)", "q(a): q(a)", "q(b): q(b)", "q(V0): q(a), q(b)")
	wantTable(t, program(t, "p(X) :- p(X), p(X). p(a)."), "p(X)", "p(a): p(a)", "p(V0): p(a)")
}

// TestOneVariableInSeveralPlaces: of a head, of an atom of the body, of the query.
func TestOneVariableInSeveralPlaces(t *testing.T) {
	cs := program(t, "same(X, X) :- d(X). d(1). d(2). pair(X, Y) :- same(X, Y). both(X) :- same(X, X). ring(X, Y, X) :- e(X, Y), e(Y, X). e(1, 2). e(2, 1). e(2, 2).")
	wantTable(t, cs, "same(1, X)", "d(1): d(1)", "same(1, V0): same(1, 1)")
	wantTable(t, cs, "same(X, 2)", "d(2): d(2)", "same(V0, 2): same(2, 2)")
	wantTable(t, cs, "same(3, X)", "d(3): ", "same(3, V0): ")
	wantTable(t, cs, "pair(X, X)", "d(V0): d(1), d(2)", "pair(V0, V0): pair(1, 1), pair(2, 2)", "same(V0, V0): same(1, 1), same(2, 2)")
	wantTable(t, cs, "pair(X, Y)", "d(V0): d(1), d(2)", "pair(V0, V1): pair(1, 1), pair(2, 2)", "same(V0, V1): same(1, 1), same(2, 2)")
	wantTable(t, cs, "both(X)", "both(V0): both(1), both(2)", "d(V0): d(1), d(2)", "same(V0, V0): same(1, 1), same(2, 2)")
	wantTable(t, cs, "ring(X, Y, Z)",
		"e(1, 2): e(1, 2)", "e(2, 1): e(2, 1)", "e(2, 2): e(2, 2)", "e(V0, V1): e(1, 2), e(2, 1), e(2, 2)",
		"ring(V0, V1, V2): ring(1, 2, 1), ring(2, 1, 2), ring(2, 2, 2)")
	wantTable(t, cs, "ring(X, X, Y)", "e(2, 2): e(2, 2)", "e(V0, V0): e(2, 2)", "ring(V0, V0, V1): ring(2, 2, 2)")
	wantTable(t, cs, "ring(X, Y, Y)", "e(2, 2): e(2, 2)", "e(V0, V0): e(2, 2)", "ring(V0, V1, V1): ring(2, 2, 2)")
	wantTable(t, cs, "ring(1, X, Y)", "e(1, V0): e(1, 2)", "e(2, 1): e(2, 1)", "ring(1, V0, V1): ring(1, 2, 1)")
	wantTable(t, cs, "ring(1, X, 2)", "ring(1, V0, 2): ")
	wantTable(t, cs, "ring(X, 1, 2)", "e(1, 2): e(1, 2)", "e(2, 1): e(2, 1)", "ring(V0, 1, 2): ring(2, 1, 2)")
}

// TestConstantsInHeads: they make the goal's variables what they are, in the body too.
func TestConstantsInHeads(t *testing.T) {
	cs := program(t, "p(a, X) :- q(X). p(X, b) :- q(X). q(a). q(b).")
	wantTable(t, cs, "p(X, Y)", "p(V0, V1): p(a, a), p(a, b), p(b, b)", "q(V0): q(a), q(b)")
	wantTable(t, cs, "p(X, X)", "p(V0, V0): p(a, a), p(b, b)", "q(a): q(a)", "q(b): q(b)")
	wantTable(t, cs, "p(b, X)", "p(b, V0): p(b, b)", "q(b): q(b)")
	wantTable(t, cs, "p(c, c)", "p(c, c): ")
	cs = program(t, "p(X, Y, a) :- q(X, Y).  q(a, 1). q(b, a).")
	wantTable(t, cs, "p(X, Y, X)", "p(V0, V1, V0): p(a, 1, a)", "q(a, V0): q(a, 1)")
	wantTable(t, cs, "p(X, Y, Y)", "p(V0, V1, V1): p(b, a, a)", "q(V0, a): q(b, a)")
}

// TestConstantsThatAreAlike: a number and the text of its digits, texts with blanks and digits in them, the empty text: none is taken for another, and no two goals for one.
func TestConstantsThatAreAlike(t *testing.T) {
	cs := program(t, `p(1). p("1"). p("1 "). p(" 1"). p(""). p("0 1"). p("V0"). q(X, Y) :- p(X), r(X, Y). r(1, "2"). r("1", 2). r("1 ", "2"). r("", ""). r("V0", "0").`)
	wantTable(t, cs, "q(X, Y)",
		`p(V0): p(1), p(""), p(" 1"), p("0 1"), p("1"), p("1 "), p("V0")`,
		`q(V0, V1): q(1, "2"), q("", ""), q("1", 2), q("1 ", "2"), q("V0", "0")`,
		`r(1, V0): r(1, "2")`, `r("", V0): r("", "")`, `r(" 1", V0): `, `r("0 1", V0): `, `r("1", V0): r("1", 2)`, `r("1 ", V0): r("1 ", "2")`, `r("V0", V0): r("V0", "0")`)
}

// TestTextsThatRunTogether: two texts side by side aren't taken for two others that are the same in a row, whatever stands between them.
func TestTextsThatRunTogether(t *testing.T) {
	cs := program(t, "p(X, Y) :- e(X, Y), f(X, Y). f(X, Y) :- e(X, Y).")
	n := 0
	for _, between := range texts("", " ", ",", ", ", "\x00", "\"", "\", \"", "2", "2 0 ", " 2 0 ", "2 0 1 ", " 2 0 1 ", "2 1 ", "t1 ", "1:", ";", "|", "/", "V0", "\\") {
		cs = append(cs, rule(atom("e", txt("a"), txt("b"+between+"c"))), rule(atom("e", txt("a"+between+"b"), txt("c"))))
		n += 2
	}
	// p and e of all, f and e of each.
	wantSize(t, cs, "p(X, Y)", 2+2*n, 4*n)
	_, answers := tables(t, cs, p(v(0), v(1)))
	if len(answers) != n {
		t.Errorf("P16.2: %d answers, want %d", len(answers), n)
	}
}

// TestSamePredicateName: with another number of arguments, or said by someone, it is another thing.
func TestSamePredicateName(t *testing.T) {
	cs := program(t, "p :- p(a). p(X) :- p(X, X). p(a, a). p(b, b) :- ann says p. ann says p :- p(b). p1(a). p(1, a).")
	wantTable(t, cs, "p", "p: p", "p(a): p(a)", "p(a, a): p(a, a)")
	wantTable(t, cs, "p(b)", "ann says p: ", "p(b): ", "p(b, b): ")
}

// TestCoveredGoals: a goal that another one covers, or that says the same as another but for its variables, is asked by itself.
func TestCoveredGoals(t *testing.T) {
	cs := program(t, "d(1). d(2). both :- d(X), d(1). more :- d(1), d(X). two(X) :- d(Y), d(X), d(2).")
	wantTable(t, cs, "both", "both: both", "d(1): d(1)", "d(V0): d(1), d(2)")
	wantTable(t, cs, "more", "d(1): d(1)", "d(V0): d(1), d(2)", "more: more")
	wantTable(t, cs, "two(1)", "d(1): d(1)", "d(2): d(2)", "d(V0): d(1), d(2)", "two(1): two(1)")
	cs = program(t, "e(1, 1). e(1, 2). all :- e(X, Y), e(Z, Z), e(1, W), e(Y, X), e(1, 1).")
	wantTable(t, cs, "all", "all: all", "e(1, 1): e(1, 1)", "e(1, V0): e(1, 1), e(1, 2)", "e(2, 1): ", "e(V0, V0): e(1, 1)", "e(V0, V1): e(1, 1), e(1, 2)")
	// Said by anyone, by one, by none.
	cs = program(t, "ann says d. d. all :- X says d, ann says d, d, bob says d.")
	wantTable(t, cs, "all", "all: ", "d: d", "ann says d: ann says d", "bob says d: ", "V0 says d: ann says d")
}

// TestSeveralClausesOfOneRest: what is left of two clauses may be the same, or differ in the head, in an atom, in a test alone.
func TestSeveralClausesOfOneRest(t *testing.T) {
	cs := program(t, `p(X) :- a(X), d(X). p(X) :- b(X), d(X). p(1) :- a(X), d(X). p(X) :- a(X), e(X). p(X) :- a(X), d(Y), Y < X. p(X) :- a(X), d(Y), X < Y. a(1). a(2). a(3). b(3). b(4). d(2). d(4). e(1).`)
	wantTable(t, cs, "p(X)",
		"a(V0): a(1), a(2), a(3)", "b(V0): b(3), b(4)", "d(1): ", "d(2): d(2)", "d(3): ", "d(4): d(4)", "d(V0): d(2), d(4)", "e(1): e(1)", "e(2): ", "e(3): ", "p(V0): p(1), p(2), p(3), p(4)")
	// The operator alone.
	cs = program(t, "p(X) :- d(X), d(Y), X < Y. p(X) :- d(X), d(Y), Y = X, X = 3. p(X) :- d(X), d(Y), Y < X, X = 2. d(1). d(2). d(3). q(X) :- d(X), d(Y), X = Y. q(X) :- d(X), d(Y), X < Y. r(X) :- d(X), e(Y), X < Y. r(X) :- d(X), e(Y), X <= Y. e(2).")
	wantAsk(t, cs, "p(X)", "p(1)", "p(2)", "p(3)")
	wantAsk(t, cs, "q(X)", "q(1)", "q(2)", "q(3)")
	wantAsk(t, cs, "r(X)", "r(1)", "r(2)")
	cs = program(t, "p(X, Y) :- a(X), d(Z), f(X, Y). a(1). a(2). d(1). d(2). d(3). f(1, 5). f(2, 6).")
	wantTable(t, cs, "p(X, Y)", "a(V0): a(1), a(2)", "d(V0): d(1), d(2), d(3)", "f(1, V0): f(1, 5)", "f(2, V0): f(2, 6)", "p(V0, V1): p(1, 5), p(2, 6)")
}

// TestQualifiers: constants, variables and none, in the query, the heads and the bodies.
func TestQualifiers(t *testing.T) {
	cs := program(t, "ann says ok(X) :- Y says good(X). ok(X) :- ann says ok(X), good(X). bob says ok(X) :- good(X). bob says good(b). ann says good(c). good(c). good(d).")
	good := "V0 says good(V1): ann says good(c), bob says good(b)"
	wantTable(t, cs, "X says ok(Y)", "good(V0): good(c), good(d)", good, "V0 says ok(V1): ann says ok(b), ann says ok(c), bob says ok(c), bob says ok(d)")
	wantTable(t, cs, "ann says ok(X)", good, "ann says ok(V0): ann says ok(b), ann says ok(c)")
	wantTable(t, cs, "ann says ok(b)", "V0 says good(b): bob says good(b)", "ann says ok(b): ann says ok(b)")
	wantTable(t, cs, "bob says ok(X)", "good(V0): good(c), good(d)", "bob says ok(V0): bob says ok(c), bob says ok(d)")
	wantTable(t, cs, "carl says ok(X)", "carl says ok(V0): ")
	wantTable(t, cs, "ok(X)", "good(b): ", "good(c): good(c)", good, "ok(V0): ok(c)", "ann says ok(V0): ann says ok(b), ann says ok(c)")
	wantTable(t, cs, "good(X)", "good(V0): good(c), good(d)")
}

// TestQualifiersThatAreArguments: one variable as a qualifier and as an argument.
func TestQualifiersThatAreArguments(t *testing.T) {
	cs := program(t, "self(X) :- X says ok(X). ann says ok(ann). ann says ok(bob). bob says ok(X) :- name(X). name(bob). name(carl). name(5).")
	wantTable(t, cs, "self(X)", "name(bob): name(bob)", "V0 says ok(V0): ann says ok(ann), bob says ok(bob)", "self(V0): self(ann), self(bob)")
	wantTable(t, cs, "X says ok(X)", "name(bob): name(bob)", "V0 says ok(V0): ann says ok(ann), bob says ok(bob)")
	wantTable(t, cs, "self(carl)", "carl says ok(carl): ", "self(carl): ")
	// The goal's qualifier becomes the head's, in the body too.
	cs = program(t, "ann says p(X, Y) :- q(X, Y), Y says r. q(ann, bob). q(carl, bob). bob says r.")
	wantTable(t, cs, "X says p(X, Y)", "V0 says p(V0, V1): ann says p(ann, bob)", "q(ann, V0): q(ann, bob)", "bob says r: bob says r")
	wantTable(t, cs, "X says p(Y, X)", "V0 says p(V1, V0): ", "q(V0, ann): ")
	// A chain of those who say who says it.
	cs = program(t, "trust(X) :- Y says next(X), trust(Y). trust(ann). ann says next(bob). bob says next(carl). dan says next(eve).")
	wantTable(t, cs, "trust(carl)",
		"V0 says next(ann): ", "V0 says next(bob): ann says next(bob)", "V0 says next(carl): bob says next(carl)",
		"trust(ann): trust(ann)", "trust(bob): trust(bob)", "trust(carl): trust(carl)")
}

// TestQualifiersThatCannotBe: a qualifier's variable that an earlier atom, or the query, makes a number or the empty text: the goal is asked and has no answers, whatever the clauses are.
func TestQualifiersThatCannotBe(t *testing.T) {
	cs := program(t, `r(X) :- q(X), X says s. q(5). q(""). q(ann). q("5"). ann says s. s. "5" says s.`)
	wantTable(t, cs, "r(X0)",
		`q(V0): q(5), q(""), q("5"), q(ann)`, `r(V0): r("5"), r(ann)`,
		"5 says s: ", `"" says s: `, `"5" says s: "5" says s`, "ann says s: ann says s")
	wantTable(t, cs, "r(5)", "q(5): q(5)", "r(5): ", "5 says s: ")
	wantTable(t, cs, `r("")`, `q(""): q("")`, `r(""): `, `"" says s: `)
	// What stands behind it isn't asked.
	cs = program(t, `r(X) :- q(X), X says s(X, Y), q(Y). q(5). q(""). q(bob). bob says s(X, X) :- q(X).`)
	wantTable(t, cs, "r(X)",
		"q(bob): q(bob)", `q(V0): q(5), q(""), q(bob)`, "r(V0): r(bob)",
		"5 says s(5, V0): ", `"" says s("", V0): `, "bob says s(bob, V0): bob says s(bob, bob)")
	// By the head's unifying, ahead of all atoms.
	wantTable(t, program(t, "p(X) :- X says q. ann says q."), "p(1)", "p(1): ", "1 says q: ")
	wantTable(t, program(t, "p(X, X) :- X says q(X). ann says q(ann)."), "p(X, 1)", "p(V0, 1): ", "1 says q(1): ")
}
