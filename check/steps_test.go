package check_test

import (
	"slices"
	"testing"

	"hearsay/api"
)

// P12.1, R2: how many steps there are, and which error is told, of which step.

func TestNumberOfSteps(t *testing.T) {
	rs := rules(rule(p(a)), rule(q(v(0)), p(v(0))))
	for _, n := range []int{1, 2, 4999, 5000} {
		wantFacts(t, derivation(rs, nTimes(n, step(0, nil))...), nTimes(n, p(a))...)
		last := append(nTimes(n-1, step(0, nil)), step(1, terms(a), n-2))
		if n > 1 {
			wantFacts(t, derivation(rs, last...), append(nTimes(n-1, p(a)), q(a))...)
			last[n-1].Uses[0]++
			wantErr(t, derivation(rs, last...), api.ErrUses)
		}
	}
	for _, n := range []int{0, 5001, 5002, 20000} {
		wantErr(t, derivation(rs, nTimes(n, step(0, nil))...), api.ErrSteps)
		wantErr(t, derivation(nil, nTimes(n, step(-1, nil))...), api.ErrSteps) // ahead of all other errors
	}
	wantErr(t, api.Proof{}, api.ErrSteps)
	wantErr(t, derivation(nil, step(0, nil)), api.ErrRule)
	wantErr(t, derivation(nil, nTimes(5000, step(0, nil))...), api.ErrRule)
}

// faultRules: what the steps of this file name.
func faultRules() []api.Clause {
	pair := with(rule(p(v(0), v(1)), q(v(0)), r(v(1))), test(api.OpNe, v(0), b))
	return rules(rule(q(a)), rule(q(b)), rule(r(c)), pair, with(pair, test(9, v(0), b)), with(rule(q(c)), test(api.OpEq, num(1), num(2))), rule(q(), p(v(0), v(1))))
}

// aheadSteps: q(a), q(b), r(c).
func aheadSteps() []api.Step { return steps(step(0, nil), step(1, nil), step(2, nil)) }

func fine() api.Step { return step(3, terms(a, c), 0, 2) }

// fault: what makes a fine step fail with an error, whatever other faults it has.
type fault struct {
	err api.Errno
	lay func(*api.Step)
}

// allFaults: in the order of the table, each error in several ways.
func allFaults() []fault {
	return []fault{
		{api.ErrRule, func(s *api.Step) { s.Rule = 4 }}, // the same rule but for a test that is none
		{api.ErrRule, func(s *api.Step) { s.Rule = -1 }},
		{api.ErrRule, func(s *api.Step) { s.Rule = len(faultRules()) }},
		{api.ErrVals, func(s *api.Step) { s.Vals = append(s.Vals, a) }},
		{api.ErrVals, func(s *api.Step) { s.Vals = append(s.Vals, v(0)) }},
		{api.ErrVals, func(s *api.Step) { s.Vals[1] = v(1) }},
		{api.ErrUses, func(s *api.Step) { s.Uses = append(s.Uses, 0) }},
		{api.ErrUses, func(s *api.Step) { s.Uses[1] = 5000 }},
		{api.ErrFails, func(s *api.Step) { s.Vals[0], s.Uses[0] = b, 1 }},
		{api.ErrMismatch, func(s *api.Step) { s.Uses[0] = 2 }},
		{api.ErrMismatch, func(s *api.Step) {
			if s.Uses[1] == 2 { // the fault of ErrUses at the same place stays
				s.Uses[1] = 1
			}
		}},
	}
}

// TestErrorsAlone: each one at a step with steps ahead and behind, at the last one, and at the first, where one can be.
func TestErrorsAlone(t *testing.T) {
	rs := faultRules()
	wantFacts(t, derivation(rs, append(aheadSteps(), fine())...), q(a), q(b), r(c), p(a, c))
	for _, f := range allFaults() {
		bad := fine()
		f.lay(&bad)
		wantErr(t, derivation(rs, append(aheadSteps(), bad)...), f.err)
		wantErr(t, derivation(rs, append(aheadSteps(), bad, fine(), fine())...), f.err)
		wantErr(t, derivation(rs, append(aheadSteps(), fine(), fine(), bad, fine())...), f.err)
	}
	for _, x := range []struct {
		s   api.Step
		err api.Errno
	}{{step(7, nil), api.ErrRule}, {step(-1, nil), api.ErrRule}, {step(4, nil), api.ErrRule}, {step(0, terms(a)), api.ErrVals}, {step(3, nil), api.ErrVals}, {step(0, nil, 0), api.ErrUses}, {step(3, terms(a, c)), api.ErrUses}, {step(5, nil), api.ErrFails}} {
		wantErr(t, derivation(rs, x.s), x.err)
		wantErr(t, derivation(rs, append(steps(x.s), aheadSteps()...)...), x.err)
		wantErr(t, derivation(rs, append(aheadSteps(), x.s)...), x.err)
	}
	// The first step that can have it is the second one.
	wantErr(t, derivation(rules(rule(p(a)), rule(q(), p(b))), step(0, nil), step(1, nil, 0)), api.ErrMismatch)
}

// TestErrorsAtOnce: of one step, whichever they are, the first one of the table is told.
func TestErrorsAtOnce(t *testing.T) {
	all := allFaults()
	told := map[api.Errno]int{}
	for set := range 1 << len(all) {
		bad, want := fine(), api.OK
		// Backwards, so that of two at one place the earlier one of the table is what stays.
		for i := len(all) - 1; i >= 0; i-- {
			if set>>i&1 == 1 {
				all[i].lay(&bad)
				want = all[i].err
			}
		}
		got := derivation(faultRules(), append(aheadSteps(), bad)...)
		if want == api.OK {
			wantFacts(t, got, q(a), q(b), r(c), p(a, c))
		} else {
			wantErr(t, got, want)
		}
		if _, err := plainConclude(got); err != want {
			t.Fatalf("faults %b: %d by the plain version, want %d", set, err, want)
		}
		told[want]++
	}
	for _, f := range all {
		if told[f.err] == 0 {
			t.Errorf("no step with the error %d", f.err)
		}
	}
}

// TestErrorsOfTwoSteps: the first step's is told, whatever the table says; a step that uses one that doesn't hold has no error of its own.
func TestErrorsOfTwoSteps(t *testing.T) {
	rs := faultRules()
	for _, f := range allFaults() {
		for _, g := range allFaults() {
			one, other := fine(), fine()
			f.lay(&one)
			g.lay(&other)
			wantErr(t, derivation(rs, append(aheadSteps(), one, other)...), f.err)
			wantErr(t, derivation(rs, append(aheadSteps(), fine(), one, fine(), other, one)...), f.err)
			wantErr(t, derivation(rs, append(aheadSteps(), one, step(6, terms(a, c), 3), other)...), f.err)
		}
	}
}

// TestStepsToldTwice: and rules told twice; a fact may be derived several times, a step be used by many.
func TestStepsToldTwice(t *testing.T) {
	rs := rules(rule(p(a)), rule(p(a)), rule(q(v(0)), p(v(0)), p(v(0))), rule(p(v(0)), q(v(0))), rule(p(a)))
	wantFacts(t, derivation(rs, step(0, nil), step(1, nil), step(0, nil), step(2, terms(a), 0, 0), step(2, terms(a), 1, 2), step(2, terms(a), 0, 0), step(3, terms(a), 3), step(2, terms(a), 6, 0), step(3, terms(a), 7), step(4, nil)),
		p(a), p(a), p(a), q(a), q(a), q(a), p(a), q(a), p(a), p(a))
	wantCheck(t, rules(rs[3], rs[0], rs[2]), derivation(rs, step(0, nil), step(1, nil), step(4, nil), step(2, terms(a), 2, 1)), q(a), api.OK)
}

// TestByChance: derivations of which each step follows, and the same ones changed in one place and in several, beside the plain version.
func TestByChance(t *testing.T) {
	told, most := map[api.Errno]int{}, 0
	for seed := range int64(1000) {
		c := newChosen(seed)
		cs := c.program()
		follows := c.derivation(cs)
		wantPlain(t, cs, follows, told)
		most = max(most, len(follows.Steps))
		for range 8 {
			of := clone(follows)
			for range one(c, 1, 1, 2, 3) {
				c.spoil(&of)
			}
			wantPlain(t, cs, of, told)
		}
	}
	for _, err := range []api.Errno{api.OK, api.ErrRule, api.ErrVals, api.ErrUses, api.ErrFails, api.ErrMismatch, api.ErrForeign, api.ErrGoal} {
		if told[err] < 100 {
			t.Errorf("the derivations by chance are too much alike: %d with the error %d", told[err], err)
		}
	}
	if most < 25 {
		t.Errorf("the derivations by chance are too much alike: none has more than %d steps", most)
	}
}

// wantPlain: what the plain version says of the derivation, and of it against the clauses, its own rules, some of them, and none.
func wantPlain(t *testing.T, cs []api.Clause, of api.Proof, told map[api.Errno]int) {
	t.Helper()
	facts, err := plainConclude(of)
	if err == api.OK {
		wantFacts(t, of, facts...)
	} else {
		wantErr(t, of, err)
	}
	goals := append(slices.Clone(facts), p(a), api.Atom{})
	for _, f := range []api.Atom{goals[max(0, len(facts)-1)], goals[0]} {
		for _, cs := range [][]api.Clause{cs, of.Rules, cs[1:], cs[:len(cs)/2], nil} {
			want := plainCheck(cs, of, f)
			wantCheck(t, cs, of, f, want)
			told[want]++
		}
	}
}
