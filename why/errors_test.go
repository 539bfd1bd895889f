package why_test

import (
	"slices"
	"testing"

	"hearsay/api"
	"hearsay/why"
)

// The chapter's errors, R2, R5, R7: what Whole refuses of the whole list, then ErrNoFact.

// refused: a clause, and Check's error of it.
type refused struct {
	c   api.Clause
	err api.Errno
}

// refusals: every error of Check's, wherever it comes from; some heads are said by ann.
func refusals() []refused {
	ok := rule(p(v(0)), q(v(0)))
	return []refused{
		{rule(p(), nTimes(9, q())...), api.ErrBody},
		{with(ok, nTimes(9, test(api.OpEq, a, a))...), api.ErrBody},
		{rule(by(ann, atom("z")), nTimes(1000, q())...), api.ErrBody},
		{api.Clause{}, api.ErrName},
		{rule(atom("says")), api.ErrName},
		{rule(by(ann, p()), q(), atom(long(33))), api.ErrName},
		{rule(p(nTimes(9, a)...)), api.ErrArity},
		{rule(by(ann, atom("b")), q(), q(nTimes(9, v(0))...)), api.ErrArity},
		{rule(by(num(5), p())), api.ErrBy},
		{rule(by(txt(""), p())), api.ErrBy},
		{rule(by(ann, p()), by(txt(""), q())), api.ErrBy},
		{rule(atom("y"), q(), by(v(-1), q())), api.ErrBy},
		{rule(p(none)), api.ErrTerm},
		{rule(by(ann, p(a)), q(a, txt(long(65)))), api.ErrTerm},
		{rule(p(a), q(v(leastInt))), api.ErrTerm},
		{with(ok, test(0, a, a)), api.ErrTest},
		{with(rule(by(ann, p(v(0))), q(v(0))), test(api.OpEq, a, a), test(api.OpEq, v(0), none)), api.ErrTest},
		{rule(by(v(0), p(v(0))), q(v(0))), api.ErrHead},
		{rule(p(v(0))), api.ErrSafe},
		{rule(by(ann, p(v(0)))), api.ErrSafe},
		{with(ok, test(api.OpNe, v(0), v(1))), api.ErrSafe},
		{rule(p(v(1)), q(v(1))), api.ErrNumbering},
		{rule(by(ann, atom("x")), q(v(greatestInt))), api.ErrNumbering},
	}
}

// leastError: that of the least of the clauses, by the plain order.
func leastError(l []refused) api.Errno {
	return slices.MinFunc(l, func(x, y refused) int { return compareClauses(x.c, y.c) }).err
}

func clausesOf(l []refused) []api.Clause {
	var cs []api.Clause
	for _, x := range l {
		cs = append(cs, x.c)
	}
	return cs
}

// someAtoms: what follows from the valid clauses of a list beside q(a)., what doesn't, what is no fact, and what isn't valid.
func someAtoms() []api.Atom {
	return append(noFacts(), q(a), atom("t"), by(bob, q(a)))
}

// noFacts: valid atoms with variables, and atoms that aren't valid for each reason.
func noFacts() []api.Atom {
	return atoms(q(v(0)), q(v(greatestInt)), by(v(0), q(a)), by(v(3), p()), // variables
		api.Atom{}, atom("Q", a), atom("says"), atom(long(33)), atom("q ", a), // no names
		q(nTimes(9, a)...), q(nTimes(1000, a)...),
		by(num(5), q(a)), by(txt(""), q(a)), by(txt(long(65)), q(a)), by(v(-1), q(a)), by(api.Term{N: 1}, q(a)), by(api.Term{S: "a"}, q(a)),
		q(none), q(v(-1)), q(v(leastInt)), q(txt(long(65))), q(api.Term{Kind: api.KindText, N: 1, S: "a"}), q(api.Term{Kind: api.KindNum, N: 1, S: "a"}), q(api.Term{Kind: 9, S: "a"}), q(api.Term{Kind: leastInt}))
}

// somebodies: principals, and texts that are none.
func somebodies() []string { return texts("ann", "bob", "carl", "", long(64), long(65), "\x00", "Ann") }

// wantRefused: of all three, whatever the atom and whoever u is.
func wantRefused(t *testing.T, cs []api.Clause, want api.Errno) {
	t.Helper()
	for _, f := range someAtoms() {
		wantErr(t, cs, f, want)
	}
	for _, u := range somebodies() {
		wantLossErr(t, cs, u, want)
	}
}

// TestClausesThatAreNotValid: alone, ahead of, behind and amid valid ones, twice too; those that ann says aren't passed over in Loss of ann.
func TestClausesThatAreNotValid(t *testing.T) {
	ok := readAll(t, "a.", "p(V0) :- q(V0).", "q(a).", "z(9).")
	for _, x := range refusals() {
		wantRefused(t, rules(x.c), x.err)
		wantRefused(t, slices.Concat(ok, rules(x.c)), x.err)
		wantRefused(t, slices.Concat(rules(x.c), ok), x.err)
		wantRefused(t, slices.Concat(ok[:2], rules(x.c, x.c), ok[2:]), x.err)
	}
}

// TestTheLeastThatIsNotValid: of two, and of many; whoever says the least.
func TestTheLeastThatIsNotValid(t *testing.T) {
	l := refusals()
	ok := readAll(t, "q(a).", "q(b).")
	for _, x := range l {
		for _, y := range l {
			both := slices.Concat(ok, rules(x.c, y.c))
			want := leastError([]refused{x, y})
			wantErr(t, both, q(a), want)
			wantLossErr(t, both, "ann", want)
		}
	}
	c := newChosen(1)
	for len(l) > 0 {
		wantRefused(t, c.doubled(slices.Concat(clausesOf(l), ok)), leastError(l))
		l = allBut(l, c.Intn(len(l)))
	}
}

// said: the same clauses, each head said by someone.
func said(who api.Term, cs []api.Clause) []api.Clause {
	var out []api.Clause
	for _, c := range cs {
		c.Head.By = who
		out = append(out, c)
	}
	return out
}

// TestMany: just 1000 different clauses and one more, doubles not counted; also if few of them stay without ann's; Check's error comes first.
func TestMany(t *testing.T) {
	full := slices.Concat(readAll(t, "q(a).", "p(V0) :- q(V0)."), said(ann, numbered("n", 0, 998)))
	over := append(full[:1000:1000], rule(atom("one_more")))
	twice := slices.Concat(full, full)
	wantBoth(t, twice, p(a), "p(V0) :- q(V0).", "q(a).")
	wantBoth(t, twice, by(ann, atom("n", num(997))), "ann says n(997).")
	wantErr(t, twice, atom("n", num(997)), api.ErrNoFact)
	if lost, err := why.Loss(twice, "ann"); len(lost) != 998 || err != api.OK {
		t.Errorf("P13.4: Loss of 1000 clauses has %d facts, %d", len(lost), err)
	}
	wantRefused(t, newChosen(2).mixed(slices.Concat(over, over)), api.ErrMany)
	for _, x := range refusals() {
		wantErr(t, append(over[:1001:1001], x.c), q(a), x.err)
		wantLossErr(t, append(rules(x.c), over...), "ann", x.err)
	}
	if left := why.Without(append(over, refusals()[0].c), "ann"); len(left) != 4 {
		t.Errorf("P13.3: Without refuses nothing, however many clauses there are: %v", left)
	}
}

// TestManyFacts: just 5000 facts and one more; also if few of them stay without ann's.
func TestManyFacts(t *testing.T) {
	cs := slices.Concat(said(ann, numbered("d", 0, 70)), readAll(t, "pair(V0, V1) :- ann says d(V0), ann says d(V1).", "q(a)."), numbered("more", 0, 29))
	over := append(cs[:len(cs):len(cs)], rule(atom("one_more")))
	wantBoth(t, cs, atom("pair", num(3), num(69)), "ann says d(3).", "ann says d(69).", "pair(V0, V1) :- ann says d(V0), ann says d(V1).")
	wantErr(t, cs, atom("pair", num(3), num(70)), api.ErrNoFact)
	if lost, err := why.Loss(cs, "ann"); len(lost) != 4970 || err != api.OK {
		t.Errorf("P13.4: Loss of 5000 facts has %d facts, %d", len(lost), err)
	}
	wantErr(t, over, q(a), api.ErrFacts)
	wantErr(t, over, q(v(0)), api.ErrFacts)
	wantErr(t, over, atom("t"), api.ErrFacts)
	wantLossErr(t, over, "ann", api.ErrFacts)
	wantLossErr(t, over, "", api.ErrFacts)
	wantErr(t, append(over, rule(p(v(0)))), q(a), api.ErrSafe)
	wantErr(t, slices.Concat(over, numbered("n", 0, 1000)), q(a), api.ErrMany)
}

// TestNoFacts: atoms that are no facts, aren't valid or don't follow, for clauses from which much follows.
func TestNoFacts(t *testing.T) {
	cs := append(readAll(t, "q(a).", "q(b).", "ann says q(a).", "q :- q(V0).", "p(V0) :- V1 says q(V0)."), exampleList(t)...)
	for _, f := range append(noFacts(), atom("t"), q(txt("c")), q(a, a), by(bob, q(a)), q(num(1)), q(txt(""))) {
		wantErr(t, cs, f, api.ErrNoFact)
		if plainFollows(cs, f) {
			t.Errorf("%v follows", f)
		}
	}
	// What the clauses of the list name, but doesn't follow.
	wantErr(t, readAll(t, "p :- q.", "q :- r."), q(), api.ErrNoFact)
	wantErr(t, readAll(t, "p(V0) :- q(V0), V0 != a.", "q(a)."), p(a), api.ErrNoFact)
}
