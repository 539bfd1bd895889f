package check_test

import (
	"slices"
	"testing"

	"hearsay/api"
)

// P12.2, P12.4: Check, and what is accepted besides.

// TestOrderOfErrors: Conclude's error is ahead of ErrForeign, that one ahead of ErrGoal.
func TestOrderOfErrors(t *testing.T) {
	cs, of := friendRules(t), mayBob(t)
	wrong := clone(of)
	wrong.Steps[3].Uses[0] = 0
	for _, cs := range [][]api.Clause{cs, cs[1:], nil} {
		for _, f := range atoms(may(bob), may(ann), api.Atom{}) {
			wantCheck(t, cs, wrong, f, api.ErrMismatch)
			wantCheck(t, cs, derivation(cs), f, api.ErrSteps)
		}
	}
	for _, f := range atoms(may(bob), may(ann), api.Atom{}) {
		wantCheck(t, nil, of, f, api.ErrForeign)
		for n := range cs {
			wantCheck(t, slices.Delete(slices.Clone(cs), n, n+1), of, f, api.ErrForeign)
		}
	}
	wantCheck(t, cs, of, may(ann), api.ErrGoal)
	wantCheck(t, cs, of, may(bob), api.OK)
}

// nearly: the clause, changed in one field alone, in each way.
func nearly(c api.Clause) []api.Clause {
	var out []api.Clause
	change := func(by func(*api.Clause)) {
		x := cloneClause(c)
		by(&x)
		out = append(out, x)
	}
	changeTerm := func(at func(*api.Clause) *api.Term) {
		change(func(x *api.Clause) { at(x).Kind++ })
		change(func(x *api.Clause) { at(x).N++ })
		change(func(x *api.Clause) { at(x).S += "x" })
	}
	changeAtom := func(at func(*api.Clause) *api.Atom) {
		change(func(x *api.Clause) { at(x).Name += "x" })
		change(func(x *api.Clause) { at(x).Args = append(at(x).Args, a) })
		changeTerm(func(x *api.Clause) *api.Term { return &at(x).By })
		for i := range at(&c).Args {
			change(func(x *api.Clause) { at(x).Args = slices.Delete(at(x).Args, i, i+1) })
			changeTerm(func(x *api.Clause) *api.Term { return &at(x).Args[i] })
		}
	}
	changeAtom(func(x *api.Clause) *api.Atom { return &x.Head })
	change(func(x *api.Clause) { x.Body = append(x.Body, p(a)) })
	for i := range c.Body {
		changeAtom(func(x *api.Clause) *api.Atom { return &x.Body[i] })
		change(func(x *api.Clause) { x.Body = slices.Delete(x.Body, i, i+1) })
		change(func(x *api.Clause) { x.Body = slices.Insert(x.Body, i, x.Body[i]) })
	}
	change(func(x *api.Clause) { x.Tests = append(x.Tests, test(api.OpEq, a, a)) })
	for i := range c.Tests {
		change(func(x *api.Clause) { x.Tests[i].Op++ })
		change(func(x *api.Clause) { x.Tests = slices.Delete(x.Tests, i, i+1) })
		change(func(x *api.Clause) { x.Tests = slices.Insert(x.Tests, i, x.Tests[i]) })
		changeTerm(func(x *api.Clause) *api.Term { return &x.Tests[i].L })
		changeTerm(func(x *api.Clause) *api.Term { return &x.Tests[i].R })
	}
	return out
}

// TestForeign: the clauses have all rules but one, which is there changed in one field alone.
func TestForeign(t *testing.T) {
	rs := rules(rule(q(a)), rule(by(ann, q(num(1)))), with(rule(p(v(0), num(1), c), q(v(0)), by(v(1), q(num(1)))), test(api.OpNe, v(0), v(1)), test(api.OpLt, num(0), v(0))))
	of := derivation(rs, step(0, nil), step(1, nil), step(2, terms(a, ann), 0, 1))
	f := p(a, num(1), c)
	wantCheck(t, cloneClauses(rs), of, f, api.OK)
	for n := range rs {
		all := nearly(rs[n])
		for _, x := range all {
			cs := cloneClauses(rs)
			cs[n] = x
			wantCheck(t, cs, of, f, api.ErrForeign)
			wantCheck(t, append(cs, rs[n]), of, f, api.OK)
		}
		all = append(all, slices.Delete(slices.Clone(rs), n, n+1)...)
		wantCheck(t, all, of, f, api.ErrForeign)
		wantCheck(t, append(all, rs[n]), of, f, api.OK)
	}
	// The order of body atoms and tests counts.
	swapped := cloneClauses(rs)
	swapped[2].Tests[0], swapped[2].Tests[1] = swapped[2].Tests[1], swapped[2].Tests[0]
	wantCheck(t, swapped, of, f, api.ErrForeign)
	two := rules(rule(p()), rule(q()), rule(r(), p(), q()))
	wantCheck(t, rules(two[0], two[1], rule(r(), q(), p())), derivation(two, step(0, nil), step(1, nil), step(2, nil, 0, 1)), r(), api.ErrForeign)
	// An instance of a clause isn't the clause, nor is what says less.
	wantCheck(t, rules(rule(p(v(0)), q(v(0))), rule(q(a))), derivation(rules(rule(p(a), q(a)), rule(q(a))), step(1, nil), step(0, nil, 0)), p(a), api.ErrForeign)
}

// TestForeignAnywhere: the rule that is no clause is that of the first step, of one in the middle, of the last; rules that no step names needn't be clauses.
func TestForeignAnywhere(t *testing.T) {
	var rs []api.Clause
	var laid []api.Step
	for n := range 9 {
		rs = append(rs, rule(p(num(n))))
		laid = append(laid, step(n, nil))
	}
	for n := range rs {
		cs := slices.Delete(slices.Clone(rs), n, n+1)
		for k := 1; k <= len(rs); k++ {
			want := api.OK
			if n < k {
				want = api.ErrForeign
			}
			wantCheck(t, cs, derivation(rs, laid[:k]...), p(num(k-1)), want)
		}
	}
	// A rule told twice, named by both places.
	double := append(slices.Clone(rs), rs...)
	wantCheck(t, rs, derivation(double, step(3, nil), step(12, nil), step(3, nil)), p(num(3)), api.OK)
	wantCheck(t, rs[4:], derivation(double, step(12, nil)), p(num(3)), api.ErrForeign)
}

// TestClausesBeside: what else stands among the clauses doesn't matter, valid or not; and what isn't valid is no rule even if it stands there.
func TestClausesBeside(t *testing.T) {
	of, cs := mayBob(t), friendRules(t)
	all := append(notValid(), api.Clause{})
	wantCheck(t, slices.Concat(all, cs, all), of, may(bob), api.OK)
	wantCheck(t, slices.Concat(cs, cs, cs), of, may(bob), api.OK)
	for _, x := range all {
		wantCheck(t, slices.Concat(cs[:2], rules(x, x), cs[2:]), of, may(bob), api.OK)
		wantCheck(t, slices.Concat(cs[:2], rules(x), cs[3:]), of, may(bob), api.ErrForeign)
		wantCheck(t, rules(x), derivation(rules(x), step(0, nil)), x.Head, api.ErrRule)
	}
}

// TestGoals: the last step's fact alone, and just it.
func TestGoals(t *testing.T) {
	f := by(ann, p(a, num(1), txt("1")))
	cs := rules(rule(q(a)), rule(f))
	of := derivation(cs, step(0, nil), step(1, nil))
	wantCheck(t, cs, of, f, api.OK)
	wantCheck(t, cs, of, q(a), api.ErrGoal)
	for _, x := range nearly(rule(f)) {
		if len(x.Body) == 0 && len(x.Tests) == 0 {
			wantCheck(t, cs, of, x.Head, api.ErrGoal)
		}
	}
	// Goals that are no facts.
	for _, x := range atoms(api.Atom{}, by(v(0), f), by(ann, p(v(0), num(1), txt("1"))), by(ann, p(v(0), v(1), v(2))), by(num(1), f), by(ann, p(nTimes(9, a)...)), atom("says"), p(none)) {
		wantCheck(t, cs, of, x, api.ErrGoal)
		wantCheck(t, append(cs, rule(x)), of, x, api.ErrGoal)
	}
	for _, x := range noConstants() {
		wantCheck(t, cs, of, by(ann, p(a, num(1), x)), api.ErrGoal)
		wantCheck(t, cs, of, by(x, p(a, num(1), txt("1"))), api.ErrGoal)
	}
	// nil and an empty list are the same.
	cs = rules(rule(api.Atom{Name: "p"}), api.Clause{Head: q(), Body: atoms(p()), Tests: []api.Test{}})
	of = derivation(rules(rule(api.Atom{Name: "p", Args: terms()}, atoms()...), rule(atom("q", terms()...), p(terms()...))), step(0, terms()), step(1, nil, 0))
	wantCheck(t, cs, of, atom("q"), api.OK)
	wantCheck(t, cs, of, api.Atom{Name: "q", Args: terms()}, api.OK)
}

// TestMore: of derivations by chance: with more clauses in any order, with further rules behind, and as far as any of its steps.
func TestMore(t *testing.T) {
	for seed := range int64(300) {
		c := newChosen(seed)
		of := c.derivation(c.program())
		facts, err := plainConclude(of)
		if err != api.OK {
			t.Fatal(err)
		}
		last := facts[len(facts)-1]
		more := slices.Concat(named(of), c.program(), notValid())
		for range 3 {
			wantCheck(t, more, of, last, api.OK)
			c.Shuffle(len(more), func(i, k int) { more[i], more[k] = more[k], more[i] })
		}
		further := derivation(slices.Concat(of.Rules, notValid(), c.program()), of.Steps...)
		for n := 1; n <= len(facts); n++ {
			wantFacts(t, derivation(of.Rules, of.Steps[:n]...), facts[:n]...)
			wantFacts(t, derivation(further.Rules, of.Steps[:n]...), facts[:n]...)
			wantCheck(t, more, derivation(further.Rules, of.Steps[:n]...), facts[n-1], api.OK)
		}
		wantCheck(t, named(of), further, last, api.OK)
		// One clause less, and it isn't accepted.
		less := named(of)
		n := c.Intn(len(less))
		wantCheck(t, slices.Delete(less, n, n+1), of, last, api.ErrForeign)
	}
}
