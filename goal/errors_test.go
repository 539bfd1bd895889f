package goal_test

import (
	"slices"
	"testing"

	"hearsay/api"
)

// The errors, R2, R5: the least clause that isn't valid; the query; ErrMany; ErrCalls.

// refused: a clause, and Check's error of it.
type refused struct {
	c   api.Clause
	err api.Errno
}

// refusals: every error of Check's, wherever it comes from.
func refusals() []refused {
	ok := rule(p(v(0)), q(v(0)))
	return []refused{
		{rule(p(), nTimes(9, q())...), api.ErrBody},
		{with(ok, nTimes(9, test(api.OpEq, a, a))...), api.ErrBody},
		{rule(by(ann, atom("z")), nTimes(1000, q())...), api.ErrBody},
		{api.Clause{}, api.ErrName},
		{rule(atom("says")), api.ErrName},
		{with(rule(by(ann, p()), q(), atom(long(33))), test(api.OpEq, a, a)), api.ErrName},
		{rule(p(nTimes(9, a)...)), api.ErrArity},
		{rule(by(ann, atom("b")), q(), q(nTimes(9, v(0))...)), api.ErrArity},
		{rule(by(num(5), p())), api.ErrBy},
		{rule(by(txt(""), p())), api.ErrBy},
		{rule(by(ann, p()), by(txt(""), q())), api.ErrBy},
		{rule(atom("y"), q(), by(v(-1), q())), api.ErrBy},
		{rule(p(none)), api.ErrTerm},
		{rule(by(ann, p(a)), q(a, txt(long(65)))), api.ErrTerm},
		{with(rule(p(a), q(v(leastInt))), test(api.OpLt, a, b)), api.ErrTerm},
		{with(ok, test(0, a, a)), api.ErrTest},
		{with(rule(by(ann, p(v(0))), q(v(0))), test(api.OpEq, a, a), test(api.OpEq, v(0), none)), api.ErrTest},
		{rule(by(v(0), p(v(0))), q(v(0))), api.ErrHead},
		{rule(p(v(0))), api.ErrSafe},
		{rule(by(ann, p(v(0)))), api.ErrSafe},
		{with(ok, test(api.OpNe, v(0), v(1))), api.ErrSafe},
		{rule(p(v(1)), q(v(1))), api.ErrNumbering},
		{rule(by(ann, atom("x")), q(v(greatestInt))), api.ErrNumbering},
	}
}

// badQueries: every error of CheckAtom's.
func badQueries() map[api.Errno][]api.Atom {
	return map[api.Errno][]api.Atom{
		api.ErrName:  atoms(api.Atom{}, atom("Q"), atom("says", a), atom(long(33)), atom("p q"), by(num(5), atom("", nTimes(9, none)...))),
		api.ErrArity: atoms(p(nTimes(9, v(0))...), by(num(5), p(nTimes(9, none)...)), p(nTimes(1000, a)...)),
		api.ErrBy:    atoms(by(num(5), p()), by(txt(""), p()), by(txt(long(65)), p(none)), by(v(-1), p(a)), by(api.Term{Kind: 9}, p()), by(api.Term{N: 1}, p())),
		api.ErrTerm:  atoms(p(none), p(a, txt(long(65))), by(ann, p(v(0), v(leastInt))), by(v(0), p(api.Term{Kind: api.KindText, N: 1, S: "a"}))),
	}
}

// leastError: that of the least of the clauses, by the plain order.
func leastError(l []refused) api.Errno {
	return slices.MinFunc(l, func(x, y refused) int { return compareClauses(x.c, y.c) }).err
}

func clausesOf(l []refused) []api.Clause {
	var cs []api.Clause
	for _, x := range l {
		cs = append(cs, x.c)
	}
	return cs
}

// TestClausesThatAreNotValid: alone, ahead of, behind and amid valid ones, and twice; whether the query asks for them or not.
func TestClausesThatAreNotValid(t *testing.T) {
	ok := program(t, "a. p(X) :- q(X). q(a). z(9) :- 2 < 1.")
	for _, x := range refusals() {
		for _, asked := range atoms(p(a), p(v(0)), atom("other")) {
			wantErr(t, rules(x.c), asked, x.err)
			wantErr(t, plus(ok, x.c), asked, x.err)
			wantErr(t, plus(rules(x.c), ok...), asked, x.err)
			wantErr(t, slices.Concat(ok[:2], rules(x.c, x.c), ok[2:]), asked, x.err)
		}
	}
}

// TestTheLeastThatIsNotValid: of two, and of many.
func TestTheLeastThatIsNotValid(t *testing.T) {
	l := refusals()
	ok := program(t, "q(a). q(b).")
	for _, x := range l {
		for _, y := range l {
			wantErr(t, slices.Concat(ok, rules(x.c, y.c)), q(a), leastError([]refused{x, y}))
		}
	}
	c := newChosen(1)
	for len(l) > 0 {
		wantErr(t, c.doubled(slices.Concat(clausesOf(l), ok)), q(a), leastError(l))
		l = allBut(l, c.Intn(len(l)))
	}
}

// TestQueriesThatAreNotValid: with no clauses, with valid ones, with too many, with such as would give too much; and behind the error of a clause.
func TestQueriesThatAreNotValid(t *testing.T) {
	for err, l := range badQueries() {
		for _, x := range l {
			wantErr(t, nil, x, err)
			wantErr(t, program(t, "p. p(a). p(X) :- q(X)."), x, err)
			wantErr(t, numbered("n", 0, 1001), x, err)
			wantErr(t, tooGreat(t), x, err)
			for _, y := range refusals() {
				wantErr(t, rules(y.c), x, y.err)
				wantErr(t, plus(program(t, "a. z."), y.c), x, y.err)
			}
		}
	}
}

// tooGreat: clauses, of which all p(X) gives too many answers, and g too many goals.
func tooGreat(t *testing.T) []api.Clause {
	t.Helper()
	return slices.Concat(numbered("n", 0, 72), program(t, "p(X) :- pair(X, Y). pair(X, Y) :- n(X), n(Y). g :- pair(X, Y), one(X, Y)."))
}

// TestTheOrderOfErrors: a clause ahead of the query, the query ahead of ErrMany, that ahead of ErrCalls.
func TestTheOrderOfErrors(t *testing.T) {
	great := tooGreat(t)
	many := slices.Concat(great, numbered("more", 0, 1000))
	for _, x := range atoms(p(v(0)), atom("g")) {
		wantErr(t, great, x, api.ErrCalls)
		wantErr(t, many, x, api.ErrMany)
		wantErr(t, plus(many, rule(p(v(0)))), x, api.ErrSafe)
		wantErr(t, plus(great, rule(p(v(0)))), x, api.ErrSafe)
	}
	wantErr(t, many, p(none), api.ErrTerm)
	wantErr(t, plus(many, rule(p(v(0)))), p(none), api.ErrSafe)
	wantErr(t, plus(many, rule(p(v(0))), rule(p(nTimes(9, a)...))), p(none), api.ErrSafe)
	wantErr(t, plus(many, rule(p(v(0))), rule(by(num(1), atom("a")))), atom("Q"), api.ErrBy)
	// The query asks for nothing of all that, but the clauses are too many.
	wantErr(t, many, atom("other"), api.ErrMany)
	wantTable(t, great, "other", "other: ")
}
