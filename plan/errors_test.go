package plan_test

import (
	"testing"

	"hearsay/api"
	"hearsay/base"
)

// refused: a clause, and Check's error of it.
type refused struct {
	c   api.Clause
	err api.Errno
}

// refusals: every error of Check's, wherever it comes from; some with a further error behind it.
func refusals() []refused {
	ok := rule(p(v(0)), q(v(0)))
	return []refused{
		{rule(p(), nTimes(9, q())...), api.ErrBody},
		{rule(p(), nTimes(1000, q())...), api.ErrBody},
		{with(ok, nTimes(9, test(api.OpEq, a, a))...), api.ErrBody},
		{rule(atom("P"), nTimes(9, q())...), api.ErrBody},
		{api.Clause{}, api.ErrName},
		{rule(atom("says")), api.ErrName},
		{rule(p(), q(), atom(long(33))), api.ErrName},
		{rule(by(v(0), atom("")), q()), api.ErrName},
		{rule(p(nTimes(9, a)...)), api.ErrArity},
		{rule(p(), q(), q(nTimes(9, v(0))...)), api.ErrArity},
		{rule(by(num(5), p())), api.ErrBy},
		{rule(p(), by(txt(""), q())), api.ErrBy},
		{rule(p(), q(), by(v(-1), q())), api.ErrBy},
		{rule(p(none)), api.ErrTerm},
		{rule(p(a), q(a, txt(long(65)))), api.ErrTerm},
		{rule(p(a), q(v(leastInt))), api.ErrTerm},
		{with(ok, test(0, a, a)), api.ErrTest},
		{with(ok, test(9, v(0), v(1))), api.ErrTest},
		{with(ok, test(api.OpEq, a, a), test(api.OpEq, v(0), none)), api.ErrTest},
		{rule(by(v(0), p(v(0))), q(v(0))), api.ErrHead},
		{rule(p(v(0))), api.ErrSafe},
		{rule(p(v(0), v(1)), q(v(0))), api.ErrSafe},
		{with(ok, test(api.OpNe, v(0), v(1))), api.ErrSafe},
		{with(rule(p()), test(api.OpEq, v(0), v(0))), api.ErrSafe},
		{rule(p(v(1)), q(v(1))), api.ErrNumbering},
		{rule(p(v(0)), q(v(0)), by(v(2), q(v(1)))), api.ErrNumbering},
		{rule(p(), q(v(greatestInt))), api.ErrNumbering},
	}
}

// farOff: leads that no clause has.
func farOff() []int {
	return numbers(-2, -3, 8, 9, 1000, -1000, 1<<32, 1<<32-1, -1<<32, leastInt, leastInt+1, greatestInt, greatestInt-1)
}

func someBases(t *testing.T) []*base.Base {
	t.Helper()
	l := atoms(q(), q(a), p(a), by(ann, q(a)), q(a, a))
	return []*base.Base{base.New(), parts(t, l, nil, nil), parts(t, nil, l, nil), exampleBase(t)}
}

// TestErrorsOfTheClause: with leads that are right, and with those that are wrong too, for Check's error comes first.
func TestErrorsOfTheClause(t *testing.T) {
	for _, s := range someBases(t) {
		for _, x := range refusals() {
			for _, lead := range append(farOff(), -1, 0, len(x.c.Body)-1, len(x.c.Body)) {
				wantErr(t, s, x.c, lead, x.err)
			}
		}
	}
}

// TestErrLead: just behind -1 and n - 1, and far off.
func TestErrLead(t *testing.T) {
	for _, s := range someBases(t) {
		for n := range 9 {
			x := rule(p(), nTimes(n, q(v(0)))...)
			for _, lead := range append(farOff(), n, n+1) {
				wantErr(t, s, x, lead, api.ErrLead)
				wantErr(t, s, with(x, test(api.OpLt, b, a)), lead, api.ErrLead)
			}
		}
	}
}

// TestLeadsThatAre: -1 to n - 1, of bodies of every length.
func TestLeadsThatAre(t *testing.T) {
	x := newBoth(t)
	x.add(q(a))
	x.turn()
	for n := range 9 {
		x.ask(rule(p(), nTimes(n, q(v(0)))...))
		x.ask(rule(p(b), nTimes(n, q(a))...))
	}
}
