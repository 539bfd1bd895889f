package check_test

import (
	"slices"
	"sync"
	"testing"

	"hearsay/api"
	"hearsay/check"
	"hearsay/proof"
	"hearsay/syntax"
)

// P12.3, P12.5: what is accepted is so, and what is so is accepted.

// wantSound: if the derivation is accepted, each of its facts lies in the least model of the rules that the steps ahead of it, and its own, name; and its last one in that of the valid ones among the clauses.
func wantSound(t *testing.T, cs []api.Clause, of api.Proof) bool {
	t.Helper()
	facts, err := check.Conclude(of)
	if err != api.OK {
		return false
	}
	m := run(t, named(of))
	for _, f := range facts {
		if !isFact(f) || !isFactOf(m, f) {
			t.Errorf("P12.3: %v is no fact of the least model of the rules of\n%v", f, of)
		}
	}
	last := facts[len(facts)-1]
	if check.Check(cs, of, last) == api.OK {
		cs = slices.DeleteFunc(slices.Clone(cs), func(c api.Clause) bool { return !valid(c) })
		if !isFactOf(run(t, cs), last) {
			t.Errorf("P12.3: %v is no fact of the least model of %v, but accepted by\n%v", last, cs, of)
		}
	}
	return true
}

// TestSound: of derivations by chance, most of which don't hold.
func TestSound(t *testing.T) {
	accepted, refused := 0, 0
	for seed := range int64(800) {
		c := newChosen(seed)
		cs := append(c.program(), one(c, notValid()...))
		follows := c.derivation(cs[:len(cs)-1])
		wantSound(t, cs, follows)
		for range 6 {
			of := clone(follows)
			for range one(c, 1, 1, 2) {
				c.spoil(&of)
			}
			if wantSound(t, cs, of) {
				accepted++
			} else {
				refused++
			}
		}
	}
	if accepted < 500 || refused < 500 {
		t.Errorf("the derivations by chance are too much alike: %d are accepted, %d refused", accepted, refused)
	}
}

// TestNothingOutOfNothing: derivations that only seem to derive something.
func TestNothingOutOfNothing(t *testing.T) {
	loop := rules(rule(p(), q()), rule(q(), p()), rule(r(), r()))
	for _, l := range [][]api.Step{
		{step(0, nil, 0)}, {step(0, nil, 1), step(1, nil, 0)}, {step(2, nil, 0)}, {step(0, nil)}, {step(0, nil), step(1, nil, 0)}, {step(0, nil, 1), step(1, nil, 2), step(0, nil, 1)},
	} {
		wantErr(t, derivation(loop, l...), api.ErrUses)
		if len(run(t, loop).Facts) != 0 {
			t.Fatal("the least model isn't empty")
		}
	}
	wantErr(t, derivation(rules(with(rule(p()), test(api.OpLt, num(1), num(0)))), step(0, nil)), api.ErrFails)
	wantErr(t, derivation(rules(rule(p(v(0)))), step(0, terms(a))), api.ErrRule)
}

// wantWhole: the derivation of each fact of the model is accepted against the clauses, in any order, and its steps say what Facts tells.
func wantWhole(t *testing.T, cs []api.Clause) []api.Proof {
	t.Helper()
	m := run(t, cs)
	var all []api.Proof
	for _, k := range m.Facts {
		of, err := proof.Prove(m, k.Fact)
		if err != api.OK {
			t.Fatalf("Prove of %v is %d", k.Fact, err)
		}
		for _, cs := range [][]api.Clause{cs, m.Rules, of.Rules} {
			if err := check.Check(cs, of, k.Fact); err != api.OK {
				t.Errorf("P12.5: the derivation of %v is refused: %d\n%s", k.Fact, err, proof.Text(of))
			}
		}
		wantFacts(t, of, proof.Facts(of)...)
		wantCheck(t, m.Rules, proof.Trim(of), k.Fact, api.OK)
		all = append(all, of)
	}
	return all
}

// TestWhole: of programs by chance and by hand; and the derivations changed in one place.
func TestWhole(t *testing.T) {
	most := 0
	told := map[api.Errno]int{}
	for seed := range int64(150) {
		c := newChosen(seed)
		cs := c.program()
		for _, of := range wantWhole(t, cs) {
			most = max(most, len(of.Steps))
			for range 4 {
				x := clone(of)
				c.spoil(&x)
				wantPlain(t, cs, x, told)
				wantSound(t, cs, x)
			}
		}
	}
	if most < 6 {
		t.Errorf("the programs by chance are too much alike: no derivation has more than %d steps", most)
	}
	wantWhole(t, friendRules(t))
	wantWhole(t, readAll(t, "t :- u, v.", "u.", "v.", "w :- w."))
	wantWhole(t, readAll(t, "alice says good(V0) :- V1 says friend(V0), V1 != bob.", "bob says friend(x).", "carl says friend(x).", "friend(y)."))
	wantWhole(t, readAll(t, `r(V0) :- s(V0, V1), V1 < "1".`, "s(a, 2).", "s(a, 1).", `s(b, "1").`, `s("", "").`))
}

// TestOneChange: the derivation of a fact by the program, with each step's number changed in every way.
func TestOneChange(t *testing.T) {
	cs, f := syntax.Program("edge(a, b). edge(b, c). edge(c, a). path(X, Y) :- edge(X, Y). path(X, Y) :- edge(X, Z), path(Z, Y). bob says near(X) :- path(X, X), X != b.")
	if f.Err != api.OK {
		t.Fatal(f)
	}
	accepted := 0
	for _, of := range wantWhole(t, cs) {
		for n, s := range of.Steps {
			try := func(by func(*api.Step)) {
				x := clone(of)
				by(&x.Steps[n])
				wantPlain(t, cs, x, map[api.Errno]int{})
				if wantSound(t, cs, x) {
					accepted++
				}
			}
			for r := -1; r <= len(of.Rules); r++ {
				try(func(s *api.Step) { s.Rule = r })
			}
			for i := range s.Vals {
				for _, x := range append(noConstants(), a, b, c, bob, num(1)) {
					try(func(s *api.Step) { s.Vals[i] = x })
				}
				try(func(s *api.Step) { s.Vals = slices.Delete(s.Vals, i, i+1) })
			}
			try(func(s *api.Step) { s.Vals = append(s.Vals, a) })
			for i := range s.Uses {
				for u := -1; u <= len(of.Steps); u++ {
					try(func(s *api.Step) { s.Uses[i] = u })
				}
				try(func(s *api.Step) { s.Uses = slices.Delete(s.Uses, i, i+1) })
			}
			try(func(s *api.Step) { s.Uses = append(s.Uses, 0) })
		}
	}
	if accepted == 0 {
		t.Error("no change that is none")
	}
}

// TestLongDerivation: as many steps as a derivation may have, one above the other, out of a model.
func TestLongDerivation(t *testing.T) {
	cs := rules(rule(p(num(0))), rule(p(v(0)), p(v(1)), atom("next", v(1), v(0))))
	for n := range 400 {
		cs = append(cs, rule(atom("next", num(n), num(n+1))))
	}
	m := run(t, cs)
	of, err := proof.Prove(m, p(num(400)))
	if err != api.OK || len(of.Steps) != 801 {
		t.Fatal(err, len(of.Steps))
	}
	wantCheck(t, cs, of, p(num(400)), api.OK)
	wantCheck(t, cs[:len(cs)-1], of, p(num(400)), api.ErrForeign)
	// Behind itself, as often as there is room.
	for len(of.Steps) < 5000 {
		s := cloneStep(of.Steps[len(of.Steps)-801])
		for i := range s.Uses {
			s.Uses[i] += 801
		}
		of.Steps = append(of.Steps, s)
	}
	facts, err := check.Conclude(of)
	if err != api.OK || len(facts) != 5000 || !sameAtom(facts[1601], p(num(400))) {
		t.Errorf("P12.1: 5000 steps: %d, %d", len(facts), err)
	}
}

// TestAskedAtOneTime: by several, of one derivation: R4.
func TestAskedAtOneTime(t *testing.T) {
	ch := newChosen(7)
	cs := ch.program()
	follows := ch.derivation(cs)
	facts, _ := plainConclude(follows)
	spoilt := clone(follows)
	spoilt.Steps[len(spoilt.Steps)-1].Rule = -1
	var all sync.WaitGroup
	for range 8 {
		all.Add(1)
		go func() {
			defer all.Done()
			for range 50 {
				got, err := check.Conclude(follows)
				if !same(got, facts) || err != api.OK || check.Check(cs, follows, facts[len(facts)-1]) != api.OK {
					t.Errorf("R4: Conclude, asked at one time, is %v, %d", got, err)
				}
				if got, err := check.Conclude(spoilt); len(got) != 0 || err != api.ErrRule || check.Check(nil, follows, facts[0]) != api.ErrForeign {
					t.Errorf("R4: Conclude, asked at one time, is %v, %d", got, err)
				}
			}
		}()
	}
	all.Wait()
}
