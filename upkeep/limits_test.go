package upkeep_test

import (
	"slices"
	"testing"

	"hearsay/api"
	"hearsay/syntax"
	"hearsay/upkeep"
)

// R7: just as many as the limits let in, and one more.

// wantAdd: so many facts come.
func wantAdd(t *testing.T, k *upkeep.Kept, c api.Clause, came int) {
	t.Helper()
	if change, err := k.Add(c); err != api.OK || len(change.Came) != came || len(change.Gone) != 0 {
		t.Errorf("P17.2: Add(%s): %d came, %d gone, %d, want %d, none, OK", syntax.Print(c), len(change.Came), len(change.Gone), err, came)
	}
}

// wantRemove: so many facts go.
func wantRemove(t *testing.T, k *upkeep.Kept, c api.Clause, gone int) {
	t.Helper()
	if change, err := k.Remove(c); err != api.OK || len(change.Gone) != gone || len(change.Came) != 0 {
		t.Errorf("P17.3: Remove(%s): %d gone, %d came, %d, want %d, none, OK", syntax.Print(c), len(change.Gone), len(change.Came), err, gone)
	}
}

// wantRefused: with this error, and all looks stay as they are.
func wantRefused(t *testing.T, k *upkeep.Kept, c api.Clause, want api.Errno) {
	t.Helper()
	clauses, facts := k.Clauses(), k.Facts()
	if change, err := k.Add(c); err != want || !noChange(change) {
		t.Errorf("P17.2: Add(%v): %d came, %d gone, %d, want %d and no change", c, len(change.Came), len(change.Gone), err, want)
	}
	if !sameClauses(k.Clauses(), clauses) || !same(k.Facts(), facts) {
		t.Errorf("R2: the refused Add(%v) has changed something", c)
	}
}

// wantSize: so many clauses and facts; the facts are those of the model made anew.
func wantSize(t *testing.T, k *upkeep.Kept, clauses, facts int) {
	t.Helper()
	if n, m := len(k.Clauses()), len(k.Facts()); n != clauses || m != facts {
		t.Errorf("P17.4: %d clauses, %d facts, want %d and %d", n, m, clauses, facts)
	}
	if !same(k.Facts(), modelFacts(t, k.Clauses())) {
		t.Error("P17.6: the facts aren't those of the model made anew")
	}
}

// TestMostClauses: rules and facts alike; what would bring nothing is one more as well.
func TestMostClauses(t *testing.T) {
	rules := program(t, "even(X) :- n(X), X != 1, X != 3. some :- n(X). ann says n(X) :- n(X), X < 3.")
	k := keptOf(t, slices.Concat(rules, numbered("n", 0, 997)))
	wantSize(t, k, 1000, 997+995+1+3)
	more := program(t, "n(997). even(2). some. even(X) :- n(X), X = 2. nothing :- other. n(X) :- n(X). some :- n(X), n(X). bob says n(5).")
	for _, c := range more {
		wantRefused(t, k, c, api.ErrMany)
	}
	for _, c := range slices.Concat(rules, numbered("n", 0, 3)) {
		wantAdd(t, k, c, 0)
	}
	for _, x := range refusals() {
		wantRefused(t, k, x.c, x.err)
	}
	for _, c := range more[1:] {
		wantRefused(t, k, c, api.ErrMany)
		wantRemove(t, k, clauseOf(t, "n(5)."), 2)
		came := count(syntax.Print(c) == "bob says n(5).")
		wantAdd(t, k, c, came)
		wantRefused(t, k, clauseOf(t, "n(5)."), api.ErrMany)
		wantRemove(t, k, c, came)
		wantAdd(t, k, clauseOf(t, "n(5)."), 2)
	}
	wantSize(t, k, 1000, 997+995+1+3)
}

// pairs: so many facts d, all pairs of them, and so many facts more.
func pairs(t *testing.T, d, more int) []api.Clause {
	t.Helper()
	return slices.Concat(numbered("d", 0, d), numbered("more", 0, more), program(t, "pair(X, Y) :- d(X), d(Y)."))
}

// TestMostFacts: just 5000, and one more, whichever clause is the last to come.
func TestMostFacts(t *testing.T) {
	k := keptOf(t, pairs(t, 70, 30)) // 70 and 4900 and 30
	wantSize(t, k, 101, 5000)
	for _, c := range program(t, "more(30). d(70). some(X) :- pair(X, 7). last :- d(3). ann says d(0). d(a) :- d(3). more(X) :- pair(X, Y).") {
		wantRefused(t, k, c, api.ErrFacts)
	}
	// What brings nothing finds room.
	for _, c := range program(t, "pair(3, 4). pair(X, Y) :- d(Y), d(X). d(X) :- pair(X, Y). none :- other. d(5).") {
		wantAdd(t, k, c, 0)
	}
	wantSize(t, k, 105, 5000)
	wantRefused(t, k, clauseOf(t, "more(30)."), api.ErrFacts)
	wantRemove(t, k, clauseOf(t, "more(7)."), 1)
	wantAdd(t, k, clauseOf(t, "more(30)."), 1)
	wantRefused(t, k, clauseOf(t, "more(7)."), api.ErrFacts)
	wantSize(t, k, 105, 5000)
}

// TestWhicheverIsLast: the rule, a fact that it makes much of, or one that it makes nothing of.
func TestWhicheverIsLast(t *testing.T) {
	cs := pairs(t, 70, 31)
	other := clauseOf(t, "more(5).")
	c := newChosen(5)
	for _, place := range []int{0, 33, 69, 70, 85, 100, 101} {
		last := cs[place]
		k := keptOf(t, c.mixed(slices.Delete(slices.Clone(cs), place, place+1)))
		ahead := len(k.Facts())
		wantRefused(t, k, last, api.ErrFacts)
		wantRefused(t, k, last, api.ErrFacts)
		wantRemove(t, k, other, 1)
		wantAdd(t, k, last, 5001-ahead)
		wantSize(t, k, 101, 5000)
	}
}

// chain: edges from 0 on, and what can be reached by them.
func chain(t *testing.T, edges int) []api.Clause {
	t.Helper()
	cs := program(t, "path(X, Y) :- edge(X, Y). path(X, Y) :- edge(X, Z), path(Z, Y).")
	for n := range edges {
		cs = append(cs, rule(atom("edge", num(n), num(n+1))))
	}
	return cs
}

// TestMostFactsInManyRounds: the limit is passed in a late round alone.
func TestMostFactsInManyRounds(t *testing.T) {
	cs := chain(t, 99) // 99 and 4950
	for _, place := range []int{0, 1, 2, 50, 100} {
		k := keptOf(t, slices.Delete(slices.Clone(cs), place, place+1))
		wantRefused(t, k, cs[place], api.ErrFacts)
	}
	k := keptOf(t, chain(t, 98))
	wantSize(t, k, 100, 98+98*99/2)
	wantRefused(t, k, cs[100], api.ErrFacts)
	wantRemove(t, k, cs[2], 1+98)
	wantAdd(t, k, cs[100], 1+98)
	wantRemove(t, k, cs[51], 1+49*50)
	wantSize(t, k, 99, 97+98*99/2-49*50)
	wantRemove(t, k, cs[0], 98*99/2-49*50)
	wantSize(t, k, 98, 97)
}

// TestOrderOfErrors: Check's, then what is kept, then ErrMany, then ErrFacts.
func TestOrderOfErrors(t *testing.T) {
	cs := slices.Concat(numbered("n", 0, 985), program(t, "big(X, Y) :- n(X), m(Y). m(0). m(1). m(2). m(3)."), numbered("x", 0, 10))
	k := keptOf(t, cs)
	wantSize(t, k, 1000, 985+4*985+4+10)
	last := clauseOf(t, "m(4).")
	wantRefused(t, k, last, api.ErrMany)
	wantAdd(t, k, clauseOf(t, "m(3)."), 0)
	for _, x := range refusals() {
		wantRefused(t, k, x.c, x.err)
	}
	wantRemove(t, k, clauseOf(t, "x(0)."), 1)
	wantRefused(t, k, last, api.ErrFacts)
	wantRefused(t, k, rule(p(v(0))), api.ErrSafe)
	wantAdd(t, k, clauseOf(t, "m(3)."), 0)
	wantAdd(t, k, clauseOf(t, "x(0)."), 1)
	wantRefused(t, k, last, api.ErrMany)
	wantRemove(t, k, clauseOf(t, "m(3)."), 986)
	wantAdd(t, k, last, 986)
	wantRefused(t, k, clauseOf(t, "m(3)."), api.ErrMany)
}

// TestMostOfEverything: a clause with eight atoms of eight arguments, said by eight, and eight tests.
func TestMostOfEverything(t *testing.T) {
	vars := terms(v(0), v(1), v(2), v(3), v(4), v(5), v(6), v(7))
	c := with(rule(p(vars...)), nTimes(8, test(api.OpLe, v(0), v(7)))...)
	for i := range 8 {
		c.Body = append(c.Body, by(v(8+i), q(slices.Concat(vars[i:], vars[:i])...)))
	}
	longest, least := txt(long(64)), num(leastInt)
	w := watch(t)
	w.addClause(c)
	w.addClause(rule(by(longest, q(nTimes(8, longest)...))))
	w.addClause(rule(by(ann, q(nTimes(8, least)...))))
	w.addClause(rule(q(nTimes(8, a)...)))
	w.addClause(rule(by(ann, q(num(1), num(2), num(1), num(2), num(1), num(2), num(1), num(2)))))
	w.addClause(rule(by(bob, q(num(2), num(1), num(2), num(1), num(2), num(1), num(2), num(1)))))
	want := atoms(p(nTimes(8, least)...), p(num(1), num(2), num(1), num(2), num(1), num(2), num(1), num(2)), p(nTimes(8, longest)...))
	if got := w.k.Answers(p(vars...)); !same(got, want) {
		t.Errorf("P17.2: %q, want %q", toldAtoms(got), toldAtoms(want))
	}
	if change := w.removeClause(rule(by(longest, q(nTimes(8, longest)...)))); len(change.Gone) != 2 {
		t.Errorf("P17.3: %q gone", toldAtoms(change.Gone))
	}
	if change := w.removeClause(c); !same(change.Gone, want[:2]) {
		t.Errorf("P17.3: %q gone", toldAtoms(change.Gone))
	}
}
