package check_test

import (
	"fmt"
	"slices"
	"testing"

	"hearsay/api"
)

// P12.1: each error of a step, in every way.

func TestRulesThatAreNoPlace(t *testing.T) {
	rs := rules(rule(p(a)), rule(p(b)), rule(q(v(0)), p(v(0))))
	wantFacts(t, derivation(rs, step(0, nil), step(1, nil), step(2, terms(b), 1)), p(a), p(b), q(b))
	for _, n := range append(farOff(), 3, 4) {
		for _, bad := range steps(step(n, nil), step(n, terms(b), 1), step(n, terms(v(0)), -1)) {
			wantErr(t, derivation(rs, bad), api.ErrRule)
			wantErr(t, derivation(rs, step(0, nil), step(1, nil), bad), api.ErrRule)
			wantErr(t, derivation(rs, step(0, nil), bad, step(1, nil)), api.ErrRule)
		}
	}
	wantErr(t, derivation(rs[:2], step(0, nil), step(1, nil), step(2, terms(b), 1)), api.ErrRule)
}

// notValid: for each error of chapter 3's Check some clauses.
func notValid() []api.Clause {
	fine := rule(p(v(0)), q(v(0)))
	return rules(
		rule(p(), nTimes(9, q())...), with(fine, nTimes(9, test(api.OpEq, a, a))...), rule(p(), nTimes(1000, q())...),
		api.Clause{}, rule(atom("says")), rule(atom("P")), rule(atom(long(33))), rule(p(), q(), atom("")),
		rule(p(nTimes(9, a)...)), rule(p(), q(nTimes(9, v(0))...)),
		rule(by(num(5), p())), rule(p(), by(txt(""), q())), rule(p(), q(), by(v(-1), q())),
		rule(p(none)), rule(p(a), q(a, txt(long(65)))), rule(p(a), q(v(leastInt))),
		with(fine, test(0, a, a)), with(fine, test(5, a, a)), with(fine, test(api.OpEq, a, a), test(api.OpEq, v(0), none)),
		rule(by(v(0), p(v(0))), q(v(0))),
		rule(p(v(0))), rule(p(a, v(0)), q(a)), with(fine, test(api.OpNe, v(0), v(1))), with(rule(p()), test(api.OpEq, v(0), v(0))),
		rule(p(v(1)), q(v(1))), rule(p(), q(v(greatestInt))), rule(p(v(1)), q(v(0), v(1))),
	)
}

// TestRulesThatAreNotValid: as a step names them, whatever values and uses it has; if none does, they aren't looked at.
func TestRulesThatAreNotValid(t *testing.T) {
	fine := rules(rule(q(a)), rule(q()), rule(q(v(0), v(0)), q(v(0))))
	laid := steps(step(0, nil), step(1, nil), step(2, terms(a), 0))
	facts := atoms(q(a), q(), q(a, a))
	for _, bad := range notValid() {
		if valid(bad) {
			t.Fatalf("%v is valid", bad)
		}
		rs := append(slices.Clone(fine), bad)
		wantFacts(t, derivation(rs, laid...), facts...)
		for _, n := range []int{0, 1, 2, 8, 9, 1000} {
			for _, vals := range [][]api.Term{nil, terms(a), terms(a, a), terms(none)} {
				wantErr(t, derivation(rs, append(slices.Clone(laid), step(3, vals, nTimes(n, 1)...))...), api.ErrRule)
			}
			wantErr(t, derivation(rs, step(3, terms(a), nTimes(n, 0)...)), api.ErrRule)
		}
		wantErr(t, derivation(rs, step(0, nil), step(3, terms(a), 0), step(1, nil)), api.ErrRule)
		// Ahead of the others and amid them, not named.
		ahead := slices.Clone(laid)
		for i := range ahead {
			ahead[i].Rule++
		}
		wantFacts(t, derivation(slices.Concat(rules(bad), fine, rules(bad)), ahead...), facts...)
		wantCheck(t, fine, derivation(slices.Concat(rules(bad), fine, rules(bad)), ahead...), q(a, a), api.OK)
	}
}

func TestNumberOfValues(t *testing.T) {
	rs := rules(rule(p(a)), rule(q(v(0)), p(v(0))), rule(q(v(0), v(1)), p(v(0)), by(v(2), p(v(1)))), rule(by(ann, p(b))))
	uses := [][]int{{}, {0}, {0, 1}}
	fits := [][]api.Term{{}, terms(a), terms(a, b, ann)}
	for r := range 3 {
		for n := range 9 {
			for _, x := range append(constants(), b, num(leastInt), txt("")) {
				vals := append(slices.Clone(fits[r]), nTimes(9, x)...)[:n]
				if n != len(fits[r]) {
					wantErr(t, derivation(rs, step(0, nil), step(3, nil), step(r, vals, uses[r]...)), api.ErrVals)
				}
			}
		}
		wantErr(t, derivation(rs, step(0, nil), step(3, nil), step(r, nTimes(5000, a), uses[r]...)), api.ErrVals)
	}
	// nil and an empty list are the same.
	wantFacts(t, derivation(rs, step(0, nil), step(0, terms(), []int{}...), step(0, make([]api.Term, 0, 5))), p(a), p(a), p(a))
	wantErr(t, derivation(rs, step(0, nil), step(1, nil, 0)), api.ErrVals)
	wantErr(t, derivation(rs, step(0, nil), step(1, terms(), 0)), api.ErrVals)
	// A variable that stands twice has one value; one in the tests alone can't be.
	twice := rules(rule(p(a)), with(rule(q(v(0), v(0)), p(v(0)), p(v(0))), test(api.OpLe, v(0), v(0))))
	wantFacts(t, derivation(twice, step(0, nil), step(1, terms(a), 0, 0)), p(a), q(a, a))
	wantErr(t, derivation(twice, step(0, nil), step(1, terms(a, a), 0, 0)), api.ErrVals)
}

// fullDerivation: one whose last step, the ninth, is of a rule with as many variables as a clause can have; what its steps say.
func fullDerivation() (api.Proof, []api.Atom) {
	full := rule(q(v(0)))
	var vals []api.Term
	for n := range 72 {
		vals = append(vals, txt(fmt.Sprint("x", n)))
	}
	of := derivation(rules(api.Clause{}))
	var facts []api.Atom
	for i := range 8 {
		x := by(v(9*i+1), p())
		for k := range 8 {
			x.Args = append(x.Args, v((9*i+2+k)%72)) // V0, which the head has, stands last
		}
		full.Body = append(full.Body, x)
		facts = append(facts, become(vals, x))
		of.Rules = append(of.Rules, rule(facts[i]))
		of.Steps = append(of.Steps, step(i+1, nil))
	}
	of.Rules[0] = full
	of.Steps = append(of.Steps, step(0, vals, 0, 1, 2, 3, 4, 5, 6, 7))
	return of, append(facts, q(vals[0]))
}

func TestMostVariables(t *testing.T) {
	of, facts := fullDerivation()
	wantFacts(t, of, facts...)
	for n := range 72 {
		for _, bad := range noConstants() {
			x := clone(of)
			x.Steps[8].Vals[n] = bad
			wantErr(t, x, api.ErrVals)
		}
		x := clone(of)
		x.Steps[8].Vals[n] = txt("other")
		wantErr(t, x, api.ErrMismatch)
		x.Steps[8].Vals = slices.Delete(x.Steps[8].Vals, n, n+1)
		wantErr(t, x, api.ErrVals)
	}
	of.Steps[8].Vals = append(of.Steps[8].Vals, a)
	wantErr(t, of, api.ErrVals)
}

// TestValuesThatAreNoConstants: at each place, even where the used fact would have to be the same.
func TestValuesThatAreNoConstants(t *testing.T) {
	rs := rules(rule(p(a)), rule(p(b)), with(rule(q(v(0), v(1)), p(v(0)), p(v(1))), test(api.OpNe, v(0), v(1))))
	laid := func(x, y api.Term) api.Proof {
		return derivation(rs, step(0, nil), step(1, nil), step(2, terms(x, y), 0, 1))
	}
	wantFacts(t, laid(a, b), p(a), p(b), q(a, b))
	for _, bad := range noConstants() {
		wantErr(t, laid(bad, b), api.ErrVals)
		wantErr(t, laid(a, bad), api.ErrVals)
		wantErr(t, laid(bad, bad), api.ErrVals)
		wantErr(t, laid(bad, a), api.ErrVals)
	}
	// Constants at their limits are some.
	for _, x := range terms(txt(""), txt(long(64)), txt("\x00\xff\n"), num(leastInt), num(greatestInt), num(0)) {
		rs := rules(rule(p(x)), rule(q(v(0)), p(v(0))))
		wantFacts(t, derivation(rs, step(0, nil), step(1, terms(x), 0)), p(x), q(x))
	}
}

func TestNumberOfUses(t *testing.T) {
	for n := range 9 {
		rs := rules(rule(p()), rule(q(), nTimes(n, p())...))
		for k := range 12 {
			of := derivation(rs, step(0, nil), step(1, nil, nTimes(k, 0)...))
			if k == n {
				wantFacts(t, of, p(), q())
			} else {
				wantErr(t, of, api.ErrUses)
			}
		}
		wantErr(t, derivation(rs, step(0, nil), step(1, nil, nTimes(5000, 0)...)), api.ErrUses)
	}
}

// TestUsesThatAreNotEarlier: below 0, of the step itself, of a later one, far off; at each place.
func TestUsesThatAreNotEarlier(t *testing.T) {
	rs := rules(rule(p()), rule(p(), p(), p(), p()))
	wantFacts(t, derivation(rs, step(0, nil), step(1, nil, 0, 0, 0), step(1, nil, 1, 0, 1), step(0, nil)), p(), p(), p(), p())
	for _, n := range append(farOff(), 2, 3, 4) {
		for at := range 3 {
			l := steps(step(0, nil), step(1, nil, 0, 0, 0), step(1, nil, 1, 0, 1), step(0, nil))
			l[2].Uses[at] = n
			wantErr(t, derivation(rs, l...), api.ErrUses)
			wantErr(t, derivation(rs, l[:3]...), api.ErrUses)
		}
	}
	// Rings.
	ring := rules(rule(p(), q()), rule(q(), p()))
	wantErr(t, derivation(ring, step(0, nil, 1), step(1, nil, 0)), api.ErrUses)
	wantErr(t, derivation(ring, step(0, nil, 0)), api.ErrUses)
	wantErr(t, derivation(rules(rule(p(), p())), step(0, nil, 0)), api.ErrUses)
	// The first step has none to use.
	for _, n := range append(farOff(), 0, 1) {
		wantErr(t, derivation(rs, step(1, nil, n, n, n)), api.ErrUses)
	}
}

// TestTests: each operator between all pairs of constants, as values and as they stand in the rule.
func TestTests(t *testing.T) {
	l := terms(num(leastInt), num(-1), num(0), num(1), num(greatestInt), txt(""), txt("-1"), txt("1"), a, txt("aa"), b, txt("\xff"))
	facts := rules()
	var laid []api.Step
	for n, x := range l {
		facts = append(facts, rule(p(x)))
		laid = append(laid, step(n, nil))
	}
	for i, x := range l {
		for k, y := range l {
			for op := 1; op <= 4; op++ {
				want := op == api.OpEq && i == k || op == api.OpNe && i != k || op == api.OpLt && i < k || op == api.OpLe && i <= k
				wantTest(t, append(facts, with(rule(q(v(0), v(1)), p(v(0)), p(v(1))), test(op, v(0), v(1)))), laid, step(len(l), terms(x, y), i, k), q(x, y), want)
				wantTest(t, append(facts, with(rule(q(v(0)), p(v(0))), test(op, v(0), y))), laid, step(len(l), terms(x), i), q(x), want)
				wantTest(t, append(facts, with(rule(q(v(0)), p(v(0))), test(op, x, v(0)))), laid, step(len(l), terms(y), k), q(y), want)
				wantTest(t, append(facts, with(rule(q(a)), test(op, x, y))), laid, step(len(l), nil), q(a), want)
			}
		}
	}
}

func wantTest(t *testing.T, rs []api.Clause, ahead []api.Step, s api.Step, f api.Atom, want bool) {
	t.Helper()
	err := api.OK
	if !want {
		err = api.ErrFails
	}
	wantCheck(t, rs, derivation(rs, append(slices.Clone(ahead), s)...), f, err)
}

// TestOneTestOfMany: that doesn't hold, at each place; and the error is ahead of ErrMismatch.
func TestOneTestOfMany(t *testing.T) {
	for n := 1; n <= 8; n++ {
		for at := range n {
			rs := rules(rule(p(a)), with(rule(q(v(0)), p(v(0))), nTimes(n, test(api.OpNe, v(0), b))...))
			wantFacts(t, derivation(rs, step(0, nil), step(1, terms(a), 0)), p(a), q(a))
			wantErr(t, derivation(rs, step(0, nil), step(1, terms(c), 0)), api.ErrMismatch)
			rs[1].Tests[at] = test(api.OpLt, v(0), a)
			wantErr(t, derivation(rs, step(0, nil), step(1, terms(a), 0)), api.ErrFails)
			wantErr(t, derivation(rs, step(0, nil), step(1, terms(c), 0)), api.ErrFails)
			rs[1].Tests[at] = test(api.OpEq, num(1), txt("1"))
			wantErr(t, derivation(rs, step(0, nil), step(1, terms(a), 0)), api.ErrFails)
		}
	}
}

// TestMismatch: a body atom differs from the used fact in one thing, at each place of the body; as it stands there, and as it becomes by a value.
func TestMismatch(t *testing.T) {
	f := by(ann, p(a, num(1), txt("1")))
	for _, other := range atoms(
		by(ann, q(a, num(1), txt("1"))), by(ann, atom("pp", a, num(1), txt("1"))), by(ann, atom("pA", a, num(1), txt("1"))),
		by(ann, p(a, num(1))), by(ann, p(a, num(1), txt("1"), txt("1"))), by(ann, p()), by(ann, p(num(1), txt("1"))),
		by(ann, p(a, txt("1"), txt("1"))), by(ann, p(a, num(1), num(1))), by(ann, p(num(0), num(1), txt("1"))),
		by(ann, p(a, num(2), txt("1"))), by(ann, p(a, num(-1), txt("1"))), by(ann, p(a, num(1<<32+1), txt("1"))),
		by(ann, p(b, num(1), txt("1"))), by(ann, p(txt(""), num(1), txt("1"))), by(ann, p(txt("A"), num(1), txt("1"))), by(ann, p(txt("a\x00"), num(1), txt("1"))), by(ann, p(a, num(1), txt("1 "))),
		p(a, num(1), txt("1")), by(bob, p(a, num(1), txt("1"))), by(a, p(a, num(1), txt("1"))), by(txt("ann "), p(a, num(1), txt("1"))),
		by(ann, p(num(1), a, txt("1"))), by(ann, p(txt("1"), num(1), a)),
	) {
		for n := 1; n <= 3; n++ {
			for at := range n {
				body := nTimes(n, f)
				body[at] = other
				rs := rules(rule(f), rule(other), rule(r(), body...), rule(r(), nTimes(n, f)...))
				uses := nTimes(n, 0)
				wantErr(t, derivation(rs, step(0, nil), step(1, nil), step(2, nil, uses...)), api.ErrMismatch)
				wantFacts(t, derivation(rs, step(0, nil), step(1, nil), step(3, nil, uses...)), f, other, r())
				uses[at] = 1
				wantFacts(t, derivation(rs, step(0, nil), step(1, nil), step(2, nil, uses...)), f, other, r())
				wantErr(t, derivation(rs, step(0, nil), step(1, nil), step(3, nil, uses...)), api.ErrMismatch)
			}
		}
		wantErr(t, throughValues(other, f), api.ErrMismatch)
		wantErr(t, throughValues(f, other), api.ErrMismatch)
		wantFacts(t, throughValues(f, f), f, r())
		wantFacts(t, throughValues(other, other), other, r())
	}
}

// throughValues: a step whose body atom becomes x by its values uses the fact f.
func throughValues(x, f api.Atom) api.Proof {
	hidden := api.Atom{Name: x.Name}
	var vals []api.Term
	hide := func(t api.Term) api.Term {
		vals = append(vals, t)
		return v(len(vals) - 1)
	}
	if x.By != none { // a variable stands for principals alone
		hidden.By = hide(x.By)
	}
	for _, t := range x.Args {
		hidden.Args = append(hidden.Args, hide(t))
	}
	return derivation(rules(rule(f), rule(r(), hidden)), step(0, nil), step(1, vals, 0))
}

// TestSpeakers: a variable that speaks stands for principals alone: what it becomes by another value is the fact of no step.
func TestSpeakers(t *testing.T) {
	rs := rules(rule(q()), rule(by(ann, q())), rule(by(txt("7"), q())), rule(by(txt(long(64)), q())), rule(p(v(0)), by(v(0), q())))
	ahead := steps(step(0, nil), step(1, nil), step(2, nil), step(3, nil))
	for i, who := range terms(none, ann, txt("7"), txt(long(64))) {
		for k, x := range terms(txt(""), ann, txt("7"), txt(long(64)), num(7), num(0), bob) {
			of := derivation(rs, append(slices.Clone(ahead), step(4, terms(x), i))...)
			if i == k && k > 0 {
				wantFacts(t, of, q(), by(ann, q()), by(txt("7"), q()), by(txt(long(64)), q()), p(who))
			} else {
				wantErr(t, of, api.ErrMismatch)
			}
		}
		wantErr(t, derivation(rs, append(slices.Clone(ahead), step(4, terms(none), i))...), api.ErrVals)
	}
}
