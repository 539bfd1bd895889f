package imply_test

import (
	"slices"
	"testing"

	"hearsay/api"
	"hearsay/eval"
	"hearsay/imply"
	"hearsay/subsume"
)

// P15.3, and the chapter's section 'What follows'.

// model: the facts of the clauses' least model.
func model(t *testing.T, cs []api.Clause) []api.Atom {
	t.Helper()
	m, err := eval.Whole(cs)
	if err != api.OK {
		t.Fatalf("%q: %d", told(cs), err)
	}
	var facts []api.Atom
	for _, k := range m.Facts {
		facts = append(facts, k.Fact)
	}
	return facts
}

// wantSameModel: of two lists of clauses beside the same facts. Answered is how many facts it has.
func wantSameModel(t *testing.T, promise string, x, y, facts []api.Clause) int {
	t.Helper()
	all := model(t, slices.Concat(facts, x))
	if other := model(t, slices.Concat(facts, y)); !same(all, other) {
		t.Errorf("%s: beside %q the clauses %q have another model than %q", promise, told(facts), told(x), told(y))
	}
	return len(all)
}

// wantAdds: beside c's frozen body the clauses with c have its frozen head, and without it they don't.
func wantAdds(t *testing.T, cs []api.Clause, c api.Clause) {
	t.Helper()
	body, head, _ := imply.Freeze(cs, c)
	with := func(l []api.Clause) bool {
		return slices.ContainsFunc(model(t, beside(l, body)), func(f api.Atom) bool { return sameAtom(f, head) })
	}
	if !with(plus(cs, c)) || with(cs) {
		t.Errorf("P15.3: over its frozen body %q doesn't add its frozen head to %q", told(rules(c)), told(cs))
	}
}

// TestItIsSo: over sets of facts by chance, and over the frozen body.
func TestItIsSo(t *testing.T) {
	yes, no, derived := 0, 0, 0
	for seed := range int64(1500) {
		c := newChosen(seed)
		cs, x := c.question()
		more := plus(cs, x)
		implied, err := imply.Implies(cs, x)
		if err != api.OK {
			t.Fatal(err)
		}
		if !implied {
			no++
			wantAdds(t, cs, x)
			continue
		}
		yes++
		wantSameModel(t, "P15.3", cs, more, nil)
		for range 10 {
			facts := c.facts()
			derived += count(wantSameModel(t, "P15.3", cs, more, facts) > len(setOf(facts)))
		}
	}
	if yes < 300 || no < 300 || derived < 1000 {
		t.Errorf("too much alike: %d implied, %d not, %d times something is derived", yes, no, derived)
	}
}

// TestOwnClauses: cs imply each of their own.
func TestOwnClauses(t *testing.T) {
	for seed := range int64(150) {
		cs := newChosen(seed).family(1 + int(seed%7))
		for _, c := range cs {
			wantImplied(t, cs, c, true)
		}
	}
	// With as many variables as a clause can have; each atom of another predicate, as with one it has 8^8 solutions.
	wide := widest()
	wantImplied(t, nil, wide, false)
	for i := range wide.Body {
		wide.Body[i].Name = texts("a", "b", "c", "d", "e", "f", "g", "h")[i]
	}
	wantImplied(t, rules(wide), wide, true)
	wantImplied(t, rules(widest()), wide, false)
}

// TestMoreImplyMore: what fewer clauses imply.
func TestMoreImplyMore(t *testing.T) {
	n := 0
	for seed := range int64(800) {
		c := newChosen(seed)
		cs, x := c.question()
		if yes, _ := imply.Implies(cs, x); yes {
			n++
			wantImplied(t, c.mixed(append(c.family(3), cs...)), x, true)
		}
	}
	if n < 200 {
		t.Errorf("just %d are implied", n)
	}
}

// TestSubsumedIsImplied: by the clause alone, and beside others.
func TestSubsumedIsImplied(t *testing.T) {
	n := 0
	c := newChosen(5)
	for range 1500 {
		x := c.clause(3, 3)
		y := one(c, c.under(x, 3), c.spoilt(c.under(x, 3)))
		if _, yes := subsume.Subsumes(x, y); yes {
			n++
			wantImplied(t, rules(x), y, true)
			wantImplied(t, c.mixed(append(c.family(3), x)), y, true)
		}
	}
	if n < 500 {
		t.Errorf("just %d are subsumed", n)
	}
	// The other way round it isn't so: a clause that its own use twice implies.
	if _, yes := subsume.Subsumes(read(t, t3), read(t, "path(V0, V1) :- path(V0, V2), path(V2, V3), path(V3, V1).")); yes {
		t.Error("it is subsumed")
	}
}

// TestByWayOfAnother: if cs imply c, and c and cs together d, cs imply d.
func TestByWayOfAnother(t *testing.T) {
	n := 0
	for seed := range int64(2500) {
		c := newChosen(seed)
		cs, x := c.question()
		if yes, _ := imply.Implies(cs, x); !yes || len(x.Body) > 4 {
			continue
		}
		d := c.joined(x, one(c, plus(cs, x)...))
		if yes, _ := imply.Implies(plus(cs, x), d); yes {
			n++
			wantImplied(t, cs, d, true)
		}
	}
	if n < 400 {
		t.Errorf("just %d", n)
	}
}
