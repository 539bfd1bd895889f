package subsume_test

import (
	"slices"
	"testing"

	"hearsay/api"
	"hearsay/eval"
	"hearsay/subsume"
)

// P14.4: nothing is lost.

// model: the facts of the clauses' least model.
func model(t *testing.T, cs []api.Clause) []api.Atom {
	t.Helper()
	m, err := eval.Whole(cs)
	if err != api.OK {
		t.Fatalf("%q: %d", told(cs), err)
	}
	var facts []api.Atom
	for _, k := range m.Facts {
		facts = append(facts, k.Fact)
	}
	return facts
}

// facts: as clauses without a body, of what bodies ask for.
func (c *chosen) facts() []api.Clause {
	var cs []api.Clause
	some := terms(a, a, ann, num(1), num(2))
	for range c.Intn(12) {
		f := one(c, q(one(c, some...)), atom("e", one(c, some...), one(c, some...)), atom("e", one(c, some...), one(c, some...)), atom("r"))
		f.By = one(c, none, none, none, ann, bob)
		cs = append(cs, rule(f))
	}
	return cs
}

// wantSameModel: of two lists of clauses beside the same facts.
func wantSameModel(t *testing.T, promise string, x, y, facts []api.Clause) []api.Atom {
	t.Helper()
	all := model(t, slices.Concat(facts, x))
	if other := model(t, slices.Concat(facts, y)); !slices.EqualFunc(all, other, sameAtom) {
		t.Errorf("%s: beside %q the clauses %q have another model than %q", promise, told(facts), told(x), told(y))
	}
	return all
}

// TestReducedClausesLoseNothing: over many sets of facts, none among them.
func TestReducedClausesLoseNothing(t *testing.T) {
	derived, needed := 0, 0
	for seed := range int64(250) {
		c := newChosen(seed)
		cs := c.family(2 + int(seed%8))
		got, _ := subsume.Reduce(cs)
		if len(got) == len(setOf(cs)) {
			continue
		}
		wantSameModel(t, "P14.4", cs, got, nil)
		for range 15 {
			facts := c.facts()
			all := wantSameModel(t, "P14.4", cs, got, facts)
			derived += count(len(all) > len(setOf(facts)))
			// Without one more clause something would be lost, now and then.
			less := allBut(got, c.Intn(len(got)))
			needed += count(len(model(t, slices.Concat(facts, less))) < len(all))
		}
	}
	if derived < 500 || needed < 150 {
		t.Errorf("too much alike: %d times something is derived, %d times a clause is needed for it", derived, needed)
	}
}

// TestACondensedClauseLosesNothing: in its clause's place, beside facts and other clauses.
func TestACondensedClauseLosesNothing(t *testing.T) {
	derived, needed := 0, 0
	for seed := range int64(1500) {
		c := newChosen(seed)
		x := c.doubledPart(c.doubledPart(c.clause(4, 3)))
		got, _ := subsume.Condense(x)
		if sameClause(got, x) {
			continue
		}
		wantSameModel(t, "P14.4", rules(x), rules(got), nil)
		for range 4 {
			facts, others := c.facts(), rules(c.clause(2, 2), c.clause(2, 2))
			wantSameModel(t, "P14.4", rules(x), rules(got), facts)
			beside := slices.Concat(facts, others)
			all := wantSameModel(t, "P14.4", rules(x), rules(got), beside)
			derived += count(len(all) > len(model(t, beside)))
			// Without one more part more would be derived, now and then.
			for i := range parts(got) {
				if less := without(got, i); safe(less) {
					needed += count(len(model(t, append(slices.Clone(beside), numberedAnew(less)))) > len(all))
				}
			}
		}
	}
	if derived < 500 || needed < 500 {
		t.Errorf("too much alike: %d times something is derived, %d times a part keeps something off", derived, needed)
	}
}

// TestSubsumedHeadsAreGiven: each head that d gives over facts c gives too.
func TestSubsumedHeadsAreGiven(t *testing.T) {
	given := 0
	c := newChosen(17)
	for range 6000 {
		x, y := c.pair(3, 3)
		if !subsumes(x, y).yes {
			continue
		}
		facts := c.facts()
		more := model(t, append(slices.Clone(facts), x))
		for _, f := range model(t, append(slices.Clone(facts), y)) {
			given += count(len(y.Body) > 0 && f.Name == "p")
			if !hasAtom(more, f) {
				t.Errorf("P14.4: beside %q the clause %q gives %v, and %q doesn't", told(facts), told(rules(y)), f, told(rules(x)))
			}
		}
	}
	if given < 100 {
		t.Errorf("too much alike: %d heads are given", given)
	}
}
