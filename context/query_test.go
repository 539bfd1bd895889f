package context_test

import (
	"strings"
	"testing"

	"hearsay/api"
	"hearsay/check"
	"hearsay/clause"
	"hearsay/context"
	"hearsay/proof"
	"hearsay/syntax"
)

// P20.7: Query; P20.8: Ask; P20.14.

// noQueries: texts that are no queries, with their faults.
func noQueries() map[string]api.Fault {
	return map[string]api.Fault{
		"": fault(api.ErrSyntax, 0), "p(X)": fault(api.ErrSyntax, 4), "p(X).": fault(api.ErrSyntax, 4), "p(X)? q": fault(api.ErrSyntax, 6), "X = 5?": fault(api.ErrSyntax, 2), "p :- q?": fault(api.ErrSyntax, 2), "5?": fault(api.ErrSyntax, 0),
		"\"\" says p?": fault(api.ErrBy, 0), "p(\"" + long(65) + "\")?": fault(api.ErrTerm, 0), long(33) + "?": fault(api.ErrName, 0), "p(1,2,3,4,5,6,7,8,9)?": fault(api.ErrArity, 0),
		"p(X$)?": fault(api.ErrByte, 3), "p(\"X)?": fault(api.ErrOpen, 2), "p(\"\\q\")?": fault(api.ErrEscape, 3), "p(1a)?": fault(api.ErrNumber, 2),
		"p(X)?" + strings.Repeat(" ", 32764): fault(api.ErrTextLong, 0),
	}
}

// TestNoQueries: the text's fault comes ahead of the evaluation's, by all who read one; and nothing changes.
func TestNoQueries(t *testing.T) {
	for _, program := range texts("p(a).", numbered("p", 0, 1001)) {
		r := ringOf(t, "s", "ann")
		x := newContext(t, r, "ann")
		asserted(t, x, program)
		for text, want := range noQueries() {
			if _, f := syntax.Query(text); f != want {
				t.Fatalf("the fault of %.80q is %v, not %v", text, f, want)
			}
			wantStill(t, text, r, x, func() {
				for _, fuel := range fuels() {
					wantNoQuery(t, x, text, fuel, want)
				}
				wantNoAsk(t, x, text, want)
				wantWatch(t, x, text, 0, want)
			})
		}
		wantNoNews(t, x, 1, api.ErrWatch)
	}
}

// programs: sets of own clauses, each with a query that has answers, and the number of their rounds.
func programs() []struct {
	text, query string
	rounds      int
} {
	return []struct {
		text, query string
		rounds      int
	}{
		{"", "p?", 1},
		{"p.", "p?", 2},
		{"p(a). q(X) :- p(X).", "q(X)?", 3},
		{"p(a). p(b). r(X, Y) :- p(X), p(Y), X != Y. s(X) :- r(X, Y), r(Y, X).", "s(X)?", 4},
		{"e(1, 2). e(2, 3). e(3, 4). path(X, Y) :- e(X, Y). path(X, Y) :- e(X, Z), path(Z, Y).", "path(X, Y)?", 5},
		{"n(0, 1). n(1, 2). n(2, 3). n(3, 4). n(4, 5). n(5, 6). at(0). at(Y) :- at(X), n(X, Y).", "at(6)?", 8},
		{"p(a). ann says p(b). bob says p(c). q(X) :- W says p(X), W != bob. bob says q(X) :- q(X).", "W says q(X)?", 4},
		{"p(X) :- p(X). t :- t.", "p(X)?", 1},
		{"p(1). p(\"1\"). p(X) :- q(X), X < 0. q(-1). q(2).", "p(Y)?", 3},
	}
}

// wantWhole: what P20.7 and P20.14 say of a reply to the query: the least model's facts that it matches, a derivation of each that the checker accepts against the clauses, and the rounds.
func wantWhole(t *testing.T, x *context.Context, text string, reply api.Reply) {
	t.Helper()
	cs := x.Clauses()
	facts, rounds := plainModel(cs)
	asked, _ := syntax.Query(text)
	if !same(reply.Answers, plainAnswers(facts, asked)) || reply.Rounds != rounds || len(reply.Proofs) != len(reply.Answers) {
		t.Errorf("P20.14: of %q: the answers of %q are %q in %d rounds with %d derivations", told(cs), text, toldAtoms(reply.Answers), reply.Rounds, len(reply.Proofs))
		return
	}
	for i, p := range reply.Proofs {
		if err := check.Check(cs, p, reply.Answers[i]); err != api.OK {
			t.Errorf("P20.7: of %q: the derivation of %v is refused with %d", told(cs), reply.Answers[i], err)
		}
		if !sameProof(proof.Trim(p), p) {
			t.Errorf("P20.7: of %q: the derivation of %v isn't trimmed", told(cs), reply.Answers[i])
		}
	}
}

// TestEveryFuel: from none to Bound; in rising order, in falling order, and each with a context of its own.
func TestEveryFuel(t *testing.T) {
	for _, x := range programs() {
		bound := min(clause.Bound(programOf(t, x.text)), 60)
		rising, falling := contextOf(t, x.text), contextOf(t, x.text)
		for fuel := -1; fuel <= bound; fuel++ {
			for i, c := range []*context.Context{rising, falling, contextOf(t, x.text)} {
				use := fuel
				if i == 1 {
					use = bound - 1 - fuel
				}
				if use < x.rounds {
					wantNoQuery(t, c, x.query, use, fault(api.ErrFuel, 0))
					continue
				}
				reply, f := c.Query(x.query, use)
				if f != ok || reply.Rounds != x.rounds {
					t.Errorf("P20.7: of %q: Query(%q, %d) is %+v, %v", x.text, x.query, use, reply, f)
				}
				wantWhole(t, c, x.query, reply)
			}
		}
		wantNoQuery(t, rising, x.query, leastInt, fault(api.ErrFuel, 0))
		reply, f := rising.Query(x.query, greatestInt)
		if f != ok {
			t.Errorf("P20.14: %v", f)
		}
		wantWhole(t, rising, x.query, reply)
	}
}

// TestBoundIsEnough: with at least as much fuel as Bound no query is refused by ErrFuel.
func TestBoundIsEnough(t *testing.T) {
	for _, p := range programs() {
		x := contextOf(t, p.text)
		bound := clause.Bound(x.Clauses())
		for _, fuel := range []int{bound, bound + 1, 2 * bound, greatestInt} {
			reply, f := x.Query(p.query, fuel)
			if f != ok {
				t.Errorf("P20.14: of %q: Query(%q, %d): %v", p.text, p.query, fuel, f)
			}
			wantWhole(t, x, p.query, reply)
		}
	}
}

// TestFirstDerivations: those of chapters 10 and 11, wholly.
func TestFirstDerivations(t *testing.T) {
	x := contextOf(t, "edge(a, b). edge(b, c). path(X, Y) :- edge(X, Y). path(X, Y) :- edge(X, Z), path(Z, Y).")
	reply, f := x.Query("path(a, X)?", 4)
	if f != ok || len(reply.Proofs) != 2 || reply.Rounds != 4 {
		t.Fatalf("P20.7: %+v, %v", reply, f)
	}
	a, b, c := txt("a"), txt("b"), txt("c")
	rules := x.Clauses()
	short := api.Proof{Rules: []api.Clause{rules[0], rules[2]}, Steps: []api.Step{{}, {Rule: 1, Vals: []api.Term{a, b}, Uses: []int{0}}}}
	deep := api.Proof{Rules: rules, Steps: []api.Step{{}, {Rule: 1}, {Rule: 2, Vals: []api.Term{b, c}, Uses: []int{1}}, {Rule: 3, Vals: []api.Term{a, c, b}, Uses: []int{0, 2}}}}
	if !sameProof(reply.Proofs[0], short) || !sameProof(reply.Proofs[1], deep) {
		t.Errorf("P20.7: the derivations are %+v", reply.Proofs)
	}
}

// TestQueriesOfAllKinds: qualifiers and variables as chapter 10's Answers has them.
func TestQueriesOfAllKinds(t *testing.T) {
	r := ringOf(t, "s", "ann", "bob")
	x := newContext(t, r, "ann")
	asserted(t, x, "p(a, a). p(a, b). ann says p(b, b). p(a). p. p(7, \"7\").")
	imported(t, x, issued(t, r, "bob", "p(a, b)."), issued(t, r, "bob", "p(bob, a)."))
	for text, want := range map[string][]string{
		"p(X, Y)?":            {"p(7, \"7\")", "p(a, a)", "p(a, b)"},
		"p(X, X)?":            {"p(a, a)"},
		"p(_, _)?":            {"p(7, \"7\")", "p(a, a)", "p(a, b)"},
		"W says p(X, Y)?":     {"ann says p(b, b)", "bob says p(a, b)", "bob says p(bob, a)"},
		"W says p(W, Y)?":     {"bob says p(bob, a)"},
		"bob says p(X, Y)?":   {"bob says p(a, b)", "bob says p(bob, a)"},
		"ann says p(a, a)?":   nil,
		"p(a, b)?":            {"p(a, b)"},
		"p(X)?":               {"p(a)"},
		"p?":                  {"p"},
		"p(7, 7)?":            nil,
		"q?":                  nil,
		" p ( a , Y ) ? % so": {"p(a, a)", "p(a, b)"},
	} {
		wantQuery(t, x, text, 2, 2, want...)
		wantAsk(t, x, text, want...)
	}
}

// TestAskRefuses: ErrMany and ErrCalls; and Ask answers where Query is refused, and the other way round.
func TestAskRefuses(t *testing.T) {
	many := contextOf(t, numbered("p", 0, 1001))
	wantNoAsk(t, many, "p(5)?", fault(api.ErrMany, 0))
	wantNoAsk(t, many, "q?", fault(api.ErrMany, 0))
	retracted(t, many, "p(1000).")
	wantAsk(t, many, "p(5)?", "p(5)")
	wide := contextOf(t, numbered("n", 0, 10)+"p(A, B, C, D) :- n(A), n(B), n(C), n(D).")
	wantNoAsk(t, wide, "p(A, B, C, D)?", fault(api.ErrCalls, 0))
	wantAsk(t, wide, "p(1, 2, 3, 4)?", "p(1, 2, 3, 4)")
	wantNoQuery(t, wide, "p(1, 2, 3, 4)?", 9, fault(api.ErrFacts, 0))
	wantAsk(t, wide, "n(X)?", toldAtoms(eachNumber("n", 0, 10))...)
	deep := contextOf(t, numbered("a", 0, 2001-1001-1)+"b(X) :- a(X), c(X). c(X) :- a(X), f(X). f(X) :- a(X).")
	wantNoAsk(t, deep, "b(X)?", fault(api.ErrMany, 0))
	retracted(t, deep, "a(0). a(1). a(2).")
	wantNoAsk(t, deep, "b(X)?", fault(api.ErrCalls, 0))
	if reply, f := deep.Query("b(X)?", 9); f != ok || len(reply.Answers) != 996 {
		t.Errorf("P20.7: %d answers, %v", len(reply.Answers), f)
	}
}

// eachNumber: the facts name(from) to name(to - 1).
func eachNumber(name string, from, to int) []api.Atom {
	var l []api.Atom
	for n := from; n < to; n++ {
		l = append(l, api.Atom{Name: name, Args: []api.Term{num(n)}})
	}
	return l
}

// TestAskedFacts: Ask has no fuel, and asks the clauses as they are now.
func TestAskedFacts(t *testing.T) {
	for _, p := range programs() {
		x := contextOf(t, p.text)
		facts, _ := plainModel(x.Clauses())
		asked, _ := syntax.Query(p.query)
		wantAsk(t, x, p.query, toldAtoms(plainAnswers(facts, asked))...)
	}
	x := contextOf(t, "p(a). q(X) :- p(X).")
	wantAsk(t, x, "q(X)?", "q(a)")
	asserted(t, x, "p(b).")
	wantAsk(t, x, "q(X)?", "q(a)", "q(b)")
	retracted(t, x, "p(a).")
	wantAsk(t, x, "q(X)?", "q(b)")
}

// TestQueriesAfterChanges: whatever was asked before, the clauses as they are now are asked.
func TestQueriesAfterChanges(t *testing.T) {
	r := ringOf(t, "s", "ann", "bob")
	x := newContext(t, r, "ann")
	b := issued(t, r, "bob", "p(c).")
	for range 3 {
		for _, fuel := range []int{9, 2, 1, 3, 4} {
			x.Query("q(X)?", fuel)
		}
		wantQuery(t, x, "q(X)?", 9, 1)
		asserted(t, x, "q(X) :- p(X).")
		wantQuery(t, x, "q(X)?", 1, 1)
		asserted(t, x, "p(a). q(X) :- bob says p(X).")
		wantNoQuery(t, x, "q(X)?", 2, fault(api.ErrFuel, 0))
		wantQuery(t, x, "q(X)?", 3, 3, "q(a)")
		imported(t, x, b)
		wantQuery(t, x, "q(X)?", 3, 3, "q(a)", "q(c)")
		retracted(t, x, "p(a).")
		wantQuery(t, x, "q(X)?", 3, 3, "q(c)")
		wantPlay(t, x, api.Record{Kind: api.RecForget, Id: sum(string(b))}, api.OK)
		wantQuery(t, x, "q(X)?", 1, 1)
		wantPlay(t, x, api.Record{Kind: api.RecTake, Bytes: b}, api.OK)
		wantQuery(t, x, "q(X)?", 3, 3, "q(c)")
		wantPlay(t, x, api.Record{Kind: api.RecAssert, Clause: clauseOf(t, "p(d).")}, api.OK)
		wantQuery(t, x, "q(X)?", 3, 3, "q(c)", "q(d)")
		wantPlay(t, x, api.Record{Kind: api.RecRetract, Clause: clauseOf(t, "p(d).")}, api.OK)
		wantQuery(t, x, "q(X)?", 3, 3, "q(c)")
		wantForget(t, x, sum(string(b)), api.OK)
		retracted(t, x, "q(X) :- p(X). q(X) :- bob says p(X).")
	}
}
