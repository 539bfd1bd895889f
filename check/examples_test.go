package check_test

import (
	"slices"
	"testing"

	"hearsay/api"
)

// The chapter's examples, one by one.

func friendRules(t *testing.T) []api.Clause {
	t.Helper()
	return readAll(t, "friend(ann, bob).", "good(V0) :- friend(ann, V0), V0 != ann.", "may(V0) :- good(V0), V1 says ok(V0).", "carl says ok(bob).")
}

// mayBob: the derivation of example 1.
func mayBob(t *testing.T) api.Proof {
	t.Helper()
	return derivation(friendRules(t), step(0, nil), step(1, terms(bob), 0), step(3, nil), step(2, terms(bob, carl), 1, 2))
}

func friend(x, y api.Term) api.Atom { return atom("friend", x, y) }
func good(x api.Term) api.Atom      { return atom("good", x) }
func ok(x api.Term) api.Atom        { return atom("ok", x) }
func may(x api.Term) api.Atom       { return atom("may", x) }

func TestExample1(t *testing.T) {
	of, cs := mayBob(t), friendRules(t)
	wantFacts(t, of, friend(ann, bob), good(bob), by(carl, ok(bob)), may(bob))
	wantCheck(t, cs, of, may(bob), api.OK)
	wantCheck(t, cs, of, may(ann), api.ErrGoal)
	wantCheck(t, cs[:3], of, may(bob), api.ErrForeign)
	wantCheck(t, slices.Concat(readAll(t, "a.", "may(V0) :- good(V0)."), cs, readAll(t, "may(ann).")), of, may(bob), api.OK)
}

func TestExample2(t *testing.T) {
	rs := friendRules(t)
	first := step(0, nil)
	wantErr(t, derivation(rs), api.ErrSteps)
	for _, n := range []int{4, -1} {
		wantErr(t, derivation(rs, step(n, nil)), api.ErrRule)
	}
	wantErr(t, derivation(rs, step(0, terms(bob))), api.ErrVals)
	wantErr(t, derivation(rs, first, step(1, nil, 0)), api.ErrVals)
	wantErr(t, derivation(rs, first, step(1, terms(v(0)), 0)), api.ErrVals)
	wantErr(t, derivation(rs, step(0, nil, 0)), api.ErrUses)
	wantErr(t, derivation(rs, first, step(1, terms(bob), 1)), api.ErrUses)
	wantErr(t, derivation(rs, first, step(1, terms(bob), -1)), api.ErrUses)
}

func TestExample3(t *testing.T) {
	rs := friendRules(t)
	wantErr(t, derivation(rs, step(0, nil), step(1, terms(ann), 0)), api.ErrFails)
	wantErr(t, derivation(rs, step(0, nil), step(1, terms(carl), 0)), api.ErrMismatch)
}

func TestExample4(t *testing.T) {
	of := mayBob(t)
	of.Steps[3].Vals[1] = num(7)
	wantErr(t, of, api.ErrMismatch)
}

func TestExample5(t *testing.T) {
	of := mayBob(t)
	of.Rules = append(of.Rules, rule(good(v(0))))
	wantFacts(t, of, friend(ann, bob), good(bob), by(carl, ok(bob)), may(bob))
	for _, vals := range [][]api.Term{nil, terms(bob), terms(bob, bob)} {
		wantErr(t, derivation(of.Rules, step(4, vals)), api.ErrRule)
		wantErr(t, derivation(of.Rules, append(mayBob(t).Steps, step(4, vals))...), api.ErrRule)
	}
}

func TestExample6(t *testing.T) {
	of, cs := mayBob(t), friendRules(t)
	wantErr(t, derivation(cs, append(of.Steps, nTimes(4999, step(0, nil))...)...), api.ErrSteps)
	most := derivation(cs, append(of.Steps, nTimes(4996, step(0, nil))...)...)
	wantFacts(t, most, slices.Concat(atoms(friend(ann, bob), good(bob), by(carl, ok(bob)), may(bob)), nTimes(4996, friend(ann, bob)))...)
	wantCheck(t, cs, most, friend(ann, bob), api.OK)
	wantCheck(t, cs, most, may(bob), api.ErrGoal)
}
