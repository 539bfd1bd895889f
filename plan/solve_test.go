package plan_test

import (
	"slices"
	"testing"

	"hearsay/api"
	"hearsay/base"
	"hearsay/clause"
)

// P9.2, P9.3.

// greatest: a clause with 72 variables, each of which stands once in its body.
func greatest() api.Clause {
	c := rule(p())
	for i := range 8 {
		x := by(v(9*i), q())
		for k := range 8 {
			x.Args = append(x.Args, v(9*i+k+1))
		}
		c.Body = append(c.Body, x)
	}
	return c
}

// TestThreeParts: a chain whose links lie in all three, with each lead.
func TestThreeParts(t *testing.T) {
	link := func(n int) api.Atom { return q(num(n), num(n+1)) }
	s := parts(t, atoms(link(0), link(1), link(4), link(5)), atoms(link(2), link(3), link(6)), atoms(link(7), link(8)))
	three := rule(p(), q(v(0), v(1)), q(v(1), v(2)), q(v(2), v(3)))
	from := func(n int) []api.Term { return vals(num(n), num(n+1), num(n+2), num(n+3)) }
	// From 0: old, old, new; 1: old, new, new; 2: new, new, old; 3: new, old, old; 4: old, old, new.
	wantSolve(t, s, three, -1, from(0), from(1), from(2), from(3), from(4))
	wantSolve(t, s, three, 0, from(2), from(3))
	wantSolve(t, s, three, 1, from(1))
	wantSolve(t, s, three, 2, from(0), from(4))
	s.Turn()
	// The links 2, 3, 6 are old now, 7 and 8 are new.
	wantSolve(t, s, three, -1, from(0), from(1), from(2), from(3), from(4), from(5), from(6))
	wantSolve(t, s, three, 0)
	wantSolve(t, s, three, 1, from(6))
	wantSolve(t, s, three, 2, from(5))
	s.Turn()
	wantSolve(t, s, three, -1, from(0), from(1), from(2), from(3), from(4), from(5), from(6))
	for lead := range 3 {
		wantSolve(t, s, three, lead)
	}
}

// TestTheNextPartIsNotLookedAt: not for the lead, nor for other atoms, of facts and of patterns.
func TestTheNextPartIsNotLookedAt(t *testing.T) {
	s := base.New()
	add(t, s, atoms(p(a), by(ann, q(a))))
	for _, c := range []api.Clause{rule(atom("r"), p(a)), rule(atom("r", v(0)), p(v(0))), rule(atom("r"), by(v(0), q(v(1)))), rule(atom("r"), p(v(0)), by(ann, q(v(0))))} {
		for lead := -1; lead < len(c.Body); lead++ {
			wantSolve(t, s, c, lead)
			wantFire(t, s, c, lead)
		}
	}
}

// TestOneAtomTwice: the same atom of the body may be the same fact, which counts for each.
func TestOneAtomTwice(t *testing.T) {
	twice := rule(p(v(0)), q(v(0)), q(v(0)))
	old, young := atoms(q(a)), atoms(q(b))
	s := parts(t, old, young, atoms(q(c)))
	wantSolve(t, s, twice, -1, vals(a), vals(b))
	wantSolve(t, s, twice, 0, vals(b))
	wantSolve(t, s, twice, 1)
	fixed := rule(p(), q(b), q(b), q(b))
	wantSolve(t, s, fixed, -1, vals())
	wantSolve(t, s, fixed, 0, vals())
	wantSolve(t, s, fixed, 1)
	wantSolve(t, s, fixed, 2)
	pairs := rule(p(v(0), v(1)), q(v(0)), q(v(1)))
	wantSolve(t, s, pairs, -1, vals(a, a), vals(a, b), vals(b, a), vals(b, b))
	wantSolve(t, s, pairs, 0, vals(b, a), vals(b, b))
	wantSolve(t, s, pairs, 1, vals(a, b))
}

// TestTestsOfSomeSolutions: they fail for some only; of each operator, of values of both kinds, at the last join and ahead of it.
func TestTestsOfSomeSolutions(t *testing.T) {
	s := parts(t, atoms(q(num(2)), q(b), q(num(-1))), atoms(q(txt("")), q(a)), nil)
	one := rule(p(v(0)), q(v(0)))
	wantSolve(t, s, one, -1, vals(num(-1)), vals(num(2)), vals(txt("")), vals(a), vals(b))
	wantSolve(t, s, with(one, test(api.OpEq, v(0), a)), -1, vals(a))
	wantSolve(t, s, with(one, test(api.OpNe, a, v(0))), -1, vals(num(-1)), vals(num(2)), vals(txt("")), vals(b))
	wantSolve(t, s, with(one, test(api.OpLt, v(0), a)), -1, vals(num(-1)), vals(num(2)), vals(txt("")))
	wantSolve(t, s, with(one, test(api.OpLe, v(0), a)), -1, vals(num(-1)), vals(num(2)), vals(txt("")), vals(a))
	wantSolve(t, s, with(one, test(api.OpLe, a, v(0))), 0, vals(a))
	wantSolve(t, s, with(one, test(api.OpNe, v(0), a), test(api.OpLt, num(2), v(0))), -1, vals(txt("")), vals(b))
	wantSolve(t, s, with(one, test(api.OpLt, num(2), v(0)), test(api.OpNe, v(0), a), test(api.OpLe, v(0), num(7))), -1)
	two := rule(p(), q(v(0)), q(v(1)))
	wantSolve(t, s, with(two, test(api.OpLt, v(0), v(1)), test(api.OpLt, v(1), txt(""))), -1, vals(num(-1), num(2)))
	wantSolve(t, s, with(two, test(api.OpLt, v(1), v(0)), test(api.OpLt, txt(""), v(1))), -1, vals(b, a))
	wantSolve(t, s, with(two, test(api.OpEq, v(0), v(1)), test(api.OpNe, v(0), b), test(api.OpLe, num(2), v(1))), -1, vals(num(2), num(2)), vals(txt(""), txt("")), vals(a, a))
	wantSolve(t, s, with(two, test(api.OpNe, v(0), v(0))), -1)
	wantSolve(t, s, with(one, test(api.OpLt, a, num(1))), -1)
	wantSolve(t, s, with(one, test(api.OpLt, num(1), a)), 0, vals(txt("")), vals(a))
}

// TestTheOrderOfSolutions: by the variables' numbers, whatever the order in which atoms are joined and columns stand.
func TestTheOrderOfSolutions(t *testing.T) {
	s := parts(t, atoms(q(a, num(3)), q(b, num(2)), q(c, num(1)), q(a, num(1))), nil, nil)
	wantSolve(t, s, rule(p(v(0)), q(v(1), v(0))), -1, vals(num(1), a), vals(num(1), c), vals(num(2), b), vals(num(3), a))
	wantSolve(t, s, rule(p(), q(v(0), v(1))), -1, vals(a, num(1)), vals(a, num(3)), vals(b, num(2)), vals(c, num(1)))
	wantSolve(t, s, rule(p(v(0), v(1), v(2)), q(v(2), v(1)), q(v(0), num(1))), -1,
		vals(a, num(1), a), vals(a, num(1), c), vals(a, num(2), b), vals(a, num(3), a),
		vals(c, num(1), a), vals(c, num(1), c), vals(c, num(2), b), vals(c, num(3), a))
	said := parts(t, nil, atoms(by(bob, q(num(10))), by(ann, q(num(9))), by(bob, q(num(-2))), by(ann, q(b)), by(ann, q(txt("")))), nil)
	wantSolve(t, said, rule(p(v(0)), by(v(1), q(v(0)))), 0, vals(num(-2), bob), vals(num(9), ann), vals(num(10), bob), vals(txt(""), ann), vals(b, ann))
}

// TestQualifiersAreFound: none by none, a principal by itself, all principals by a variable, which none and what is no principal never become.
func TestQualifiersAreFound(t *testing.T) {
	s := parts(t, atoms(q(a), by(ann, q(b)), p(ann), p(num(5)), p(txt(""))), atoms(by(bob, q(a)), p(bob), p(c)), nil)
	wantSolve(t, s, rule(atom("r"), q(v(0))), -1, vals(a))
	wantSolve(t, s, rule(atom("r"), by(ann, q(v(0)))), -1, vals(b))
	wantSolve(t, s, rule(atom("r"), by(c, q(v(0)))), -1)
	wantSolve(t, s, rule(atom("r"), by(v(0), q(v(1)))), -1, vals(ann, b), vals(bob, a))
	here := rule(atom("r", v(0)), p(v(0)), by(v(0), q(v(1))))
	wantSolve(t, s, here, -1, vals(ann, b), vals(bob, a))
	wantSolve(t, s, here, 0, vals(bob, a))
	wantSolve(t, s, here, 1)
	there := rule(atom("r"), by(v(0), q(v(1))), p(v(0)))
	wantSolve(t, s, there, -1, vals(ann, b), vals(bob, a))
	wantSolve(t, s, there, 0, vals(bob, a))
	wantSolve(t, s, there, 1)
	wantSolve(t, s, rule(atom("r"), by(v(0), q(v(1))), by(v(0), q(v(2)))), -1, vals(ann, b, b), vals(bob, a, a))
}

// TestFromFarOff: constants at the limits are found, and stand in order.
func TestFromFarOff(t *testing.T) {
	l := vals(num(leastInt), num(-1), num(greatestInt), txt(""), txt("\x00"), txt(long(64)), txt("\xff"))
	x := newBoth(t)
	for _, u := range l {
		x.add(q(u))
	}
	x.turn()
	for _, u := range l[4:] {
		x.add(by(u, q(u, num(leastInt))))
	}
	x.turn()
	x.ask(rule(p(v(0)), q(v(0))))
	x.ask(rule(p(v(0), v(1)), q(v(0)), by(v(0), q(v(0), v(1)))))
	x.ask(with(rule(p(v(0), v(1)), q(v(0)), q(v(1))), test(api.OpLt, v(1), v(0))))
	x.ask(rule(p(), by(txt(long(64)), q(txt(long(64)), num(leastInt))), q(v(0))))
}

// TestOtherPredicates: a name with another number of arguments, and another name, are never found.
func TestOtherPredicates(t *testing.T) {
	x := newBoth(t)
	x.add(p(a), p(a, b), p(a, b, c), p(), q(a), q(), by(ann, p(a)), atom("pp", a), atom("p_", a))
	x.turn()
	for _, f := range atoms(p(), p(v(0)), p(v(0), v(1)), p(v(0), v(1), v(2)), p(v(0), v(1), v(2), v(3)), q(), q(v(0)), by(v(0), p(v(1))), by(v(0), p()), atom("pP", v(0))) {
		x.ask(clause.Normal(rule(atom("r"), f)))
		x.ask(clause.Normal(rule(atom("r"), f, p(v(0)))))
	}
}

// TestWithoutABody: the one solution without values, and the head, if the tests hold.
func TestWithoutABody(t *testing.T) {
	for _, s := range someBases(t) {
		for _, h := range atoms(p(), p(a, num(5)), by(ann, p(a)), q(a)) {
			c := rule(h)
			wantSolve(t, s, c, -1, vals())
			wantFire(t, s, c, -1, h)
			holding := with(c, test(api.OpLt, num(1), num(2)), test(api.OpLe, num(7), txt("")))
			wantSolve(t, s, holding, -1, vals())
			wantFire(t, s, holding, -1, h)
			for i := range 3 {
				failing := with(c, slices.Insert(slices.Clone(holding.Tests), i, test(api.OpLt, a, num(1)))...)
				wantSolve(t, s, failing, -1)
				wantFire(t, s, failing, -1)
				wantErr(t, s, failing, 0, api.ErrLead)
			}
			wantErr(t, s, c, 0, api.ErrLead)
		}
	}
}

// TestABaseWithoutFacts: only a clause without a body has a solution over it.
func TestABaseWithoutFacts(t *testing.T) {
	x := newBoth(t)
	for turn := range 2 {
		for _, c := range []api.Clause{rule(p()), rule(p(), p()), rule(p(v(0)), p(v(0))), rule(p(), by(v(0), q(v(1), a)), p(v(1)))} {
			for lead := -1; lead < len(c.Body); lead++ {
				if turn == 0 && len(c.Body) > 0 {
					wantSolve(t, x.s, c, lead)
					wantFire(t, x.s, c, lead)
				}
			}
			x.ask(c)
		}
		x.turn()
	}
}

// TestFire: heads in order, which isn't that of the solutions, and one for solutions that differ only elsewhere.
func TestFire(t *testing.T) {
	s := parts(t, atoms(q(a, num(3)), q(b, num(2)), q(c, num(3))), atoms(q(d, num(2)), q(a, b)), atoms(q(a, num(9))))
	wantFire(t, s, rule(p(v(0)), q(v(1), v(0))), -1, p(num(2)), p(num(3)), p(b))
	wantFire(t, s, rule(p(v(0)), q(v(1), v(0))), 0, p(num(2)), p(b))
	wantFire(t, s, rule(p(), q(v(0), v(1))), -1, p())
	wantFire(t, s, rule(by(ann, p(v(0), v(0), c)), q(v(0), v(1))), -1, by(ann, p(a, a, c)), by(ann, p(b, b, c)), by(ann, p(c, c, c)), by(ann, p(d, d, c)))
	wantFire(t, s, rule(p(v(0), v(1)), q(v(1), v(2)), q(v(0), v(2))), -1, p(a, a), p(a, c), p(b, b), p(b, d), p(c, a), p(c, c), p(d, b), p(d, d))
	wantFire(t, s, rule(q(v(0), v(1)), q(v(0), v(1))), -1, q(a, num(3)), q(a, b), q(b, num(2)), q(c, num(3)), q(d, num(2)))
	wantFire(t, s, with(rule(p(v(0)), q(v(0), v(1))), test(api.OpEq, v(1), num(3)), test(api.OpNe, v(0), c)), -1, p(a))
	wantFire(t, s, rule(p(v(0)), q(v(0), v(0))), -1)
}

// TestManyVariables: 72, two facts for each atom: 256 solutions, in order, none twice; with each lead those whose first new atom it is.
func TestManyVariables(t *testing.T) {
	c := greatest()
	s := parts(t, atoms(by(bob, q(upToTerms(8)...))), atoms(by(ann, q(nTimes(8, a)...))), nil)
	l := solved(t, s, c, -1)
	if len(l) != 256 {
		t.Fatalf("P9.2: %d solutions, want 256", len(l))
	}
	for i, vs := range l {
		if len(vs) != 72 {
			t.Fatalf("P9.2: solution %d has %d values, want 72", i, len(vs))
		}
		if i > 0 && slices.CompareFunc(l[i-1], vs, compareTerms) >= 0 {
			t.Errorf("P9.2: solution %d doesn't stand behind the one ahead of it", i)
		}
		for k := range 8 {
			want, who := nTimes(8, a), ann
			if i>>(7-k)&1 == 1 {
				want, who = upToTerms(8), bob
			}
			if vs[9*k] != who || !slices.Equal(vs[9*k+1:9*k+9], want) {
				t.Fatalf("P9.2: solution %d is %v: atom %d", i, vs, k)
			}
		}
	}
	for lead := range 8 {
		if n := len(solved(t, s, c, lead)); n != 1<<(7-lead) {
			t.Errorf("P9.2: %d solutions with lead %d, want %d", n, lead, 1<<(7-lead))
		}
	}
	wantFire(t, s, c, -1, p())
}

func upToTerms(n int) []api.Term {
	var l []api.Term
	for i := range n {
		l = append(l, num(i))
	}
	return l
}

// TestALongJoin: a chain of 3000 new facts, so that each solution is the first lead's.
func TestALongJoin(t *testing.T) {
	s := base.New()
	for i := range 3000 {
		add(t, s, atoms(q(num(i), num(i+1))))
	}
	s.Turn()
	c := rule(p(v(0), v(1)), q(v(0), v(2)), q(v(2), v(3)), q(v(3), v(1)))
	for lead, want := range map[int]int{-1: 2998, 0: 2998, 1: 0, 2: 0} {
		l := solved(t, s, c, lead)
		if len(l) != want {
			t.Errorf("P9.2: %d solutions with lead %d, want %d", len(l), lead, want)
		}
		for i, vs := range l {
			if !slices.Equal(vs, vals(num(i), num(i+3), num(i+1), num(i+2))) {
				t.Fatalf("P9.2: solution %d is %v", i, vs)
			}
		}
	}
}

// TestEveryBodyOfTwoAtoms: over facts of the same few terms in all parts.
func TestEveryBodyOfTwoAtoms(t *testing.T) {
	x := newBoth(t)
	for i, f := range bodies(vals(none, a, b), vals(b, num(5), a)) {
		if i%3 != 1 {
			x.add(f)
		}
		if i == 13 || i == 26 {
			x.turn()
		}
	}
	l := bodies(vals(none, a, v(0), v(1)), vals(a, v(0), v(1)))
	for i, f := range l {
		for _, g := range l[i%2:] {
			c := rule(p(), f, g)
			for _, n := range bodyVariables(c, 0, 1) {
				c.Head.Args = slices.Insert(c.Head.Args, 0, v(n))
			}
			x.ask(clause.Normal(c))
		}
	}
}

func TestByChance(t *testing.T) {
	for seed := range int64(300) {
		ch := newChosen(seed)
		x := ch.base(t)
		for range 8 {
			x.ask(ch.clause())
		}
	}
}
