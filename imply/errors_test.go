package imply_test

import (
	"slices"
	"testing"

	"hearsay/api"
)

// The errors of clauses cs and a clause c, R2, R5: the least of cs that isn't valid; c's own error; ErrTests.

// refused: a clause, and Check's error of it.
type refused struct {
	c   api.Clause
	err api.Errno
}

// refusals: every error of Check's, wherever it comes from; some of the clauses have tests.
func refusals() []refused {
	ok := rule(p(v(0)), q(v(0)))
	return []refused{
		{rule(p(), nTimes(9, q())...), api.ErrBody},
		{with(ok, nTimes(9, test(api.OpEq, a, a))...), api.ErrBody},
		{rule(by(ann, atom("z")), nTimes(1000, q())...), api.ErrBody},
		{api.Clause{}, api.ErrName},
		{rule(atom("says")), api.ErrName},
		{with(rule(by(ann, p()), q(), atom(long(33))), test(api.OpEq, a, a)), api.ErrName},
		{rule(p(nTimes(9, a)...)), api.ErrArity},
		{rule(by(ann, atom("b")), q(), q(nTimes(9, v(0))...)), api.ErrArity},
		{rule(by(num(5), p())), api.ErrBy},
		{rule(by(txt(""), p())), api.ErrBy},
		{rule(by(ann, p()), by(txt(""), q())), api.ErrBy},
		{rule(atom("y"), q(), by(v(-1), q())), api.ErrBy},
		{rule(p(none)), api.ErrTerm},
		{rule(by(ann, p(a)), q(a, txt(long(65)))), api.ErrTerm},
		{with(rule(p(a), q(v(leastInt))), test(api.OpLt, a, b)), api.ErrTerm},
		{with(ok, test(0, a, a)), api.ErrTest},
		{with(rule(by(ann, p(v(0))), q(v(0))), test(api.OpEq, a, a), test(api.OpEq, v(0), none)), api.ErrTest},
		{rule(by(v(0), p(v(0))), q(v(0))), api.ErrHead},
		{rule(p(v(0))), api.ErrSafe},
		{rule(by(ann, p(v(0)))), api.ErrSafe},
		{with(ok, test(api.OpNe, v(0), v(1))), api.ErrSafe},
		{rule(p(v(1)), q(v(1))), api.ErrNumbering},
		{rule(by(ann, atom("x")), q(v(greatestInt))), api.ErrNumbering},
	}
}

// tested: valid clauses with tests, at both ends of the order and amid it.
func tested(t *testing.T) []api.Clause {
	t.Helper()
	return readAll(t, "a :- 1 < 2.", "p(V0) :- q(V0), V0 != a.", "p :- 2 < 1.", "ann says z(V0) :- V1 says q(V0), V0 = V1, V0 <= 1.")
}

// leastError: that of the least of the clauses, by the plain order.
func leastError(l []refused) api.Errno {
	return slices.MinFunc(l, func(x, y refused) int { return compareClauses(x.c, y.c) }).err
}

func clausesOf(l []refused) []api.Clause {
	var cs []api.Clause
	for _, x := range l {
		cs = append(cs, x.c)
	}
	return cs
}

// wantBothErr: of Freeze and Implies, with nothing beside it.
func wantBothErr(t *testing.T, cs []api.Clause, c api.Clause, want api.Errno) {
	t.Helper()
	wantFreezeErr(t, cs, c, want)
	wantImpliesErr(t, cs, c, want)
}

// wantListErr: of all calls with this list.
func wantListErr(t *testing.T, cs []api.Clause, want api.Errno) {
	t.Helper()
	wantRedundantErr(t, cs, want)
	wantMinimalErr(t, cs, want)
	wantEqualErr(t, cs, nil, want)
	wantEqualErr(t, nil, cs, want)
	wantEqualErr(t, cs, cs, want)
	wantBothErr(t, cs, rule(p()), want)
}

// TestClausesThatAreNotValid: alone, ahead of, behind and amid valid ones, those with tests too, and twice.
func TestClausesThatAreNotValid(t *testing.T) {
	ok := append(readAll(t, "a.", "p(V0) :- q(V0).", "q(a).", "z(9)."), tested(t)...)
	for _, x := range refusals() {
		wantListErr(t, rules(x.c), x.err)
		wantListErr(t, slices.Concat(ok, rules(x.c)), x.err)
		wantListErr(t, slices.Concat(rules(x.c), ok), x.err)
		wantListErr(t, slices.Concat(ok[:2], rules(x.c, x.c), ok[2:]), x.err)
	}
}

// TestTheLeastThatIsNotValid: of two, and of many.
func TestTheLeastThatIsNotValid(t *testing.T) {
	l := refusals()
	ok := append(readAll(t, "q(a).", "q(b)."), tested(t)...)
	for _, x := range l {
		for _, y := range l {
			wantListErr(t, slices.Concat(ok, rules(x.c, y.c)), leastError([]refused{x, y}))
		}
	}
	c := newChosen(1)
	for len(l) > 0 {
		wantListErr(t, c.doubled(slices.Concat(clausesOf(l), ok)), leastError(l))
		l = allBut(l, c.Intn(len(l)))
	}
}

// TestTheClauseIsNotValid: its own error, if all of cs are valid, whether one has a test or not.
func TestTheClauseIsNotValid(t *testing.T) {
	for _, x := range refusals() {
		for _, cs := range [][]api.Clause{nil, readAll(t, "p."), readAll(t, "p(V0) :- q(V0).", "a."), tested(t), tested(t)[:1], tested(t)[3:]} {
			wantBothErr(t, cs, x.c, x.err)
		}
	}
}

// TestTheirErrorAheadOfItsOwn: whichever of the two is the lesser clause.
func TestTheirErrorAheadOfItsOwn(t *testing.T) {
	before, behind := 0, 0
	for _, x := range refusals() {
		for _, y := range refusals() {
			wantBothErr(t, rules(x.c), y.c, x.err)
			wantBothErr(t, plus(tested(t), x.c), y.c, x.err)
			if x.err != y.err {
				before, behind = before+count(compareClauses(x.c, y.c) < 0), behind+count(compareClauses(x.c, y.c) > 0)
			}
		}
		for _, y := range tested(t) {
			wantBothErr(t, rules(x.c), y, x.err)
		}
	}
	if before < 100 || behind < 100 {
		t.Errorf("%d and %d pairs", before, behind)
	}
}

// TestTests: in one of cs, in c, in both; one that holds, one that doesn't, one without variables.
func TestTests(t *testing.T) {
	ok := readAll(t, "a.", "p(V0) :- q(V0).", "zz.")
	for _, x := range tested(t) {
		wantListErr(t, rules(x), api.ErrTests)
		wantListErr(t, plus(ok, x), api.ErrTests)
		wantListErr(t, append(rules(x, x), ok...), api.ErrTests)
		wantBothErr(t, nil, x, api.ErrTests)
		wantBothErr(t, ok, x, api.ErrTests)
		wantBothErr(t, rules(x), x, api.ErrTests)
		for _, y := range tested(t) {
			wantBothErr(t, rules(y), x, api.ErrTests)
		}
	}
}

// TestEqualRefuses: the errors of as, ErrTests among them, ahead of those of bs.
func TestEqualRefuses(t *testing.T) {
	ok, tests := readAll(t, "p.", "z."), tested(t)
	for _, x := range refusals() {
		wantEqualErr(t, rules(x.c), ok, x.err)
		wantEqualErr(t, ok, rules(x.c), x.err)
		wantEqualErr(t, rules(x.c), tests, x.err)
		wantEqualErr(t, tests, rules(x.c), api.ErrTests)
		wantEqualErr(t, plus(tests, x.c), ok, x.err)
		wantEqualErr(t, ok, plus(tests, x.c), x.err)
		for _, y := range refusals() {
			wantEqualErr(t, rules(x.c), rules(y.c), x.err)
			wantEqualErr(t, plus(tests, x.c), plus(tests, y.c), x.err)
		}
	}
	wantEqualErr(t, tests, tests, api.ErrTests)
	wantEqualErr(t, ok, tests, api.ErrTests)
	wantEqualErr(t, tests, ok, api.ErrTests)
	// Ahead of a false, too: nothing is asked.
	wantEqualErr(t, ok, rules(read(t, "a."), tests[3]), api.ErrTests)
}

// TestRefusedAheadOfLimits: of lists that are too many, and of which too much follows.
func TestRefusedAheadOfLimits(t *testing.T) {
	many := numbered("n", 0, 1100)
	for _, x := range refusals() {
		wantListErr(t, plus(many, x.c), x.err)
		wantBothErr(t, many, x.c, x.err)
		wantBothErr(t, fours(t, 9), x.c, x.err)
	}
	for _, x := range tested(t) {
		wantListErr(t, plus(many, x), api.ErrTests)
		wantListErr(t, plus(fours(t, 9), x), api.ErrTests)
		wantBothErr(t, many, x, api.ErrTests)
	}
}
