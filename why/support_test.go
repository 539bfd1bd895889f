package why_test

import (
	"fmt"
	"slices"
	"sync"
	"testing"

	"hearsay/api"
	"hearsay/why"
)

// P13.1, P13.2, P13.5: Support and Needed of clauses that have a model.

// TestOfNone: nothing follows from no clauses.
func TestOfNone(t *testing.T) {
	for _, cs := range [][]api.Clause{nil, {}} {
		for _, f := range atoms(p(), q(a), by(ann, p()), api.Atom{}, p(v(0))) {
			wantErr(t, cs, f, api.ErrNoFact)
		}
	}
}

// TestOfOne: a fact follows from itself alone; a rule alone gives something just if it has no body, or a body that tests alone.
func TestOfOne(t *testing.T) {
	for _, text := range texts("p", "p(a)", "p(1, a, 1)", "ann says p(bob)", "x(\"\")") {
		f := fact(t, text)
		wantBoth(t, rules(rule(f)), f, text+".")
		wantErr(t, rules(rule(f)), by(bob, f), api.ErrNoFact)
	}
	wantBoth(t, readAll(t, "p :- 1 < 2."), p(), "p :- 1 < 2.")
	wantErr(t, readAll(t, "p :- 2 < 1."), p(), api.ErrNoFact)
	wantErr(t, readAll(t, "p :- p."), p(), api.ErrNoFact)
	wantErr(t, readAll(t, "p(V0) :- q(V0)."), p(a), api.ErrNoFact)
}

// TestTwoWays: by two rules, by two facts of one rule, by rules one of which is a test more; the way that stands ahead stays.
func TestTwoWays(t *testing.T) {
	two := readAll(t, "p :- q.", "p :- r.", "q.", "r.")
	wantSupport(t, two, p(), "p :- q.", "q.")
	wantNeeded(t, two, p())

	oneRule := readAll(t, "p(V0) :- q(V0, V1).", "q(a, 1).", "q(a, 2).", "q(b, 1).")
	wantSupport(t, oneRule, p(a), "p(V0) :- q(V0, V1).", "q(a, 1).")
	wantNeeded(t, oneRule, p(a), "p(V0) :- q(V0, V1).")
	wantBoth(t, oneRule, p(b), "p(V0) :- q(V0, V1).", "q(b, 1).")

	test := readAll(t, "p :- q.", "p :- q, 1 < 2.", "q.")
	wantSupport(t, test, p(), "p :- q.", "q.")
	wantNeeded(t, test, p(), "q.")
}

// TestTheWayThatStays: not always the one that the first derivation goes, nor the shorter one: the last clauses go first.
func TestTheWayThatStays(t *testing.T) {
	// p follows in one step by z, and in three by b1 and b2; z stands last, and so it goes.
	cs := readAll(t, "b1.", "b2 :- b1.", "p :- b2.", "p :- z.", "z.")
	wantSupport(t, cs, p(), "b1.", "b2 :- b1.", "p :- b2.")
	wantNeeded(t, cs, p())
	// With p itself as a clause: it stands ahead of the rules for p, so these go, and what they are made of.
	wantSupport(t, append(cs, rule(p())), p(), "p.")
	// With the rule that stands behind z: by the time that z is tried, it is gone.
	wantSupport(t, append(cs[:4:4], readAll(t, "z :- b1.")...), p(), "b1.", "b2 :- b1.", "p :- b2.")
}

// TestThreeWays: some share a part.
func TestThreeWays(t *testing.T) {
	cs := readAll(t, "p :- q, k.", "p :- r, k.", "p :- s, k.", "q.", "r.", "s.", "k.")
	wantSupport(t, cs, p(), "k.", "p :- q, k.", "q.")
	wantNeeded(t, cs, p(), "k.")
	wantSupport(t, slices.DeleteFunc(slices.Clone(cs), func(c api.Clause) bool { return sameAtom(c.Head, q()) }), p(), "k.", "p :- r, k.", "r.")
	alone := readAll(t, "p.", "p :- q.", "p :- r.", "q.", "r.")
	wantSupport(t, alone, p(), "p.")
	wantNeeded(t, alone, p())
}

// TestRings: facts that lean on one another hold each other up by nothing; what holds the ring up stays.
func TestRings(t *testing.T) {
	ring := readAll(t, "p :- q.", "q :- r.", "r :- p.")
	for _, f := range atoms(p(), q(), atom("r")) {
		wantErr(t, ring, f, api.ErrNoFact)
	}
	held := append(ring[:3:3], rule(q()))
	wantBoth(t, held, p(), "p :- q.", "q.")
	wantBoth(t, held, atom("r"), "p :- q.", "q.", "r :- p.")
	wantBoth(t, held, q(), "q.")
	twice := append(held[:4:4], rule(atom("r")))
	wantSupport(t, twice, p(), "p :- q.", "q.")
	wantNeeded(t, twice, p(), "p :- q.")
	wantSupport(t, twice, q(), "q.")
	wantNeeded(t, twice, q())
	other := append(ring[:3:3], rule(p()))
	wantBoth(t, other, p(), "p.")
	wantBoth(t, other, q(), "p.", "q :- r.", "r :- p.")
	wantBoth(t, readAll(t, "p :- p.", "p."), p(), "p.")
}

// TestFactAndRule: a fact that is itself a clause and follows by a rule too. The clause without a body stands ahead, and is tried last.
func TestFactAndRule(t *testing.T) {
	cs := readAll(t, "p(a).", "p(V0) :- q(V0).", "q(a).")
	wantSupport(t, cs, p(a), "p(a).")
	wantNeeded(t, cs, p(a))
	// The rule that makes it has a head that stands ahead by its name.
	ahead := readAll(t, "a.", "p.", "p :- a.")
	wantSupport(t, ahead, p(), "p.")
	wantNeeded(t, ahead, p())
	behind := readAll(t, "b(1).", "b(V0) :- a(V0).", "a(1).", "c(V0) :- b(V0).", "c(1).")
	wantSupport(t, behind, atom("b", num(1)), "b(1).")
	wantSupport(t, behind, atom("c", num(1)), "c(1).")
	wantNeeded(t, behind, atom("c", num(1)))
}

// TestSaidByWhom: facts that differ in the qualifier, the number of arguments or a term's kind have nothing to do with one another.
func TestSaidByWhom(t *testing.T) {
	cs := readAll(t, "p(1).", "p(\"1\").", "ann says p(1).", "bob says p(1).", "p.", "p(1, 1).")
	for i, text := range texts("p(1)", "p(\"1\")", "ann says p(1)", "bob says p(1)", "p", "p(1, 1)") {
		wantBoth(t, cs, fact(t, text), text+".")
		wantErr(t, allBut(cs, i), fact(t, text), api.ErrNoFact)
	}
	any := readAll(t, "p(V0) :- V1 says q(V0).", "ann says q(a).", "bob says q(a).", "q(a).")
	wantSupport(t, any, p(a), "p(V0) :- V1 says q(V0).", "ann says q(a).")
	wantNeeded(t, any, p(a), "p(V0) :- V1 says q(V0).")
	wantBoth(t, allBut(any, 1), p(a), "p(V0) :- V1 says q(V0).", "bob says q(a).")
	wantErr(t, append(any[:1:1], any[3]), p(a), api.ErrNoFact)
}

// TestUsedTwice: a clause, or a fact, on which the derivation leans at several places is one clause.
func TestUsedTwice(t *testing.T) {
	cs := readAll(t, "e(1, 2).", "e(2, 3).", "e(3, 4).", "path(V0, V1) :- e(V0, V1).", "path(V0, V1) :- path(V0, V2), path(V2, V1).", "two(V0) :- path(V0, V1), path(V0, V1), e(1, V2).")
	all := told(cs[:5])
	wantBoth(t, cs, atom("path", num(1), num(4)), all...)
	wantBoth(t, cs, atom("path", num(2), num(4)), all[1:]...)
	wantSupport(t, cs, atom("two", num(1)), "e(1, 2).", "path(V0, V1) :- e(V0, V1).", "two(V0) :- path(V0, V1), path(V0, V1), e(1, V2).")
}

// fromTheFirst: what Support isn't: the clauses tried from the first to the last.
func fromTheFirst(cs []api.Clause, f api.Atom) []api.Clause {
	left := setOf(cs)
	for i := 0; i < len(left); {
		if less := allBut(left, i); plainFollows(less, f) {
			left = less
		} else {
			i++
		}
	}
	return left
}

// TestFromTheLast: lists whose Support is another one if it is gone through otherwise.
func TestFromTheLast(t *testing.T) {
	for _, x := range []struct {
		f    string
		list []string
		want []string
	}{
		{"p", texts("p :- q.", "p :- r.", "q.", "r."), texts("p :- q.", "q.")},
		{"p", texts("a.", "p :- a.", "p :- z.", "z."), texts("a.", "p :- a.")},
		{"p", texts("p :- a, b.", "p :- b, c.", "p :- c, a.", "a.", "b.", "c."), texts("a.", "b.", "p :- a, b.")},
		{"p(1)", texts("p(1) :- x(V0).", "p(V0) :- y(V0).", "x(9).", "y(1)."), texts("p(1) :- x(V0).", "x(9).")},
		{"ann says p", texts("ann says p :- V0 says q.", "bob says q.", "carl says q."), texts("ann says p :- V0 says q.", "bob says q.")},
	} {
		cs, f := readAll(t, x.list...), fact(t, x.f)
		wantSupport(t, cs, f, x.want...)
		// Tried each against the whole set, just what is needed would be left.
		for i, other := range [][]api.Clause{fromTheFirst(cs, f), plainNeeded(cs, f)} {
			if slices.Equal(told(other), x.want) {
				t.Errorf("the list %q doesn't tell the other way %d from the right one", x.list, i)
			}
		}
	}
}

// TestManyWays: of a fact with n ways of three clauses each the first one stays, whatever n is.
func TestManyWays(t *testing.T) {
	for n := 1; n <= 40; n += 3 {
		var cs []api.Clause
		for i := range n {
			x, y := atom("x", num(i)), atom("y", num(i))
			cs = append(cs, rule(p(), x), rule(x, y), rule(y))
		}
		wantSupport(t, newChosen(int64(n)).mixed(cs), p(), "p :- x(0).", "x(0) :- y(0).", "y(0).")
		if n == 1 {
			wantNeeded(t, cs, p(), told(cs)...)
			continue
		}
		wantNeeded(t, cs, p())
	}
}

// TestManyNeeded: more clauses than are tried at one time, all of them needed, told in order again and again.
func TestManyNeeded(t *testing.T) {
	for n := range 30 {
		cs := rules(rule(atom("c0")))
		for i := range n {
			cs = append(cs, rule(atom(fmt.Sprintf("c%d", i+1)), atom(fmt.Sprintf("c%d", i))))
		}
		last := cs[n].Head
		want := told(setOf(cs))
		for range 2 {
			mixed := newChosen(int64(n)).mixed(slices.Concat(cs, readAll(t, "d.", "d :- c0.", "a :- c0.")))
			wantBoth(t, mixed, last, want...)
		}
	}
}

// subsets: all parts of the list, itself too.
func subsets(cs []api.Clause) [][]api.Clause {
	all := [][]api.Clause{nil}
	for _, c := range cs {
		for _, part := range slices.Clone(all) {
			all = append(all, append(slices.Clone(part), c))
		}
	}
	return all
}

// wantNothingToSpare: P13.5 of one fact, all parts of the Support, and all parts of the set if these are given.
func wantNothingToSpare(t *testing.T, f api.Atom, support, needed []api.Clause, parts [][]api.Clause) {
	t.Helper()
	if !plainFollows(support, f) {
		t.Errorf("P13.5: %v doesn't follow from its Support %q", f, told(support))
	}
	for _, part := range subsets(support) {
		if len(part) < len(support) && plainFollows(part, f) {
			t.Errorf("P13.5: of the Support %q of %v %q is enough", told(support), f, told(part))
		}
	}
	for _, part := range append(parts, support) {
		for _, c := range needed {
			if !hasClause(part, c) && plainFollows(part, f) {
				t.Errorf("P13.5: %v follows from %q, which %q isn't among", f, told(part), told(rules(c)))
			}
		}
	}
}

// TestAllParts: of small programs, with every part of their sets.
func TestAllParts(t *testing.T) {
	programs := [][]api.Clause{exampleList(t), exampleSayings(t), readAll(t, "p.", "p :- q.", "q :- p.", "q.", "r :- p, q.", "r :- q, p.")}
	for seed := range int64(150) {
		if cs := setOf(newChosen(seed).program()); len(cs) <= 8 {
			programs = append(programs, cs)
		}
	}
	if len(programs) < 30 {
		t.Fatalf("just %d small programs", len(programs))
	}
	for _, cs := range programs {
		parts := subsets(setOf(cs))
		for _, f := range plainModel(cs).inOrder() {
			support, _ := why.Support(cs, f)
			needed, _ := why.Needed(cs, f)
			wantNothingToSpare(t, f, support, needed, parts)
			for _, c := range needed {
				if !hasClause(support, c) {
					t.Errorf("P13.5: %q is needed for %v and stands not in its Support %q", told(rules(c)), f, told(support))
				}
			}
		}
	}
}

// kinds: how many facts were asked about, and of how many the answers show something.
type kinds struct{ facts, first, whole, long, some int }

func count(on bool) int {
	if on {
		return 1
	}
	return 0
}

// asPlain: each fact of one program by chance, and what is none, beside the plain version.
func asPlain(t *testing.T, seed int64) kinds {
	t.Helper()
	c := newChosen(seed)
	cs := c.program()
	model := plainModel(cs)
	var k kinds
	for _, f := range model.inOrder() {
		support, needed := plainSupport(cs, f), plainNeeded(cs, f)
		wantSupport(t, cs, f, told(support)...)
		wantNeeded(t, cs, f, told(needed)...)
		k.facts++
		k.first += count(!sameClauses(fromTheFirst(cs, f), support))
		k.whole += count(!sameClauses(needed, support))
		k.long += count(len(support) > 3)
		k.some += count(len(needed) > 0 && len(needed) < len(support))
	}
	for range 10 {
		f := c.atom(terms(none, ann, bob, v(0)), terms(a, ann, num(1), v(0), none))
		if !model.has(f) {
			wantErr(t, cs, f, api.ErrNoFact)
		}
	}
	return k
}

// TestByChance: the facts of 300 programs, some programs at one time.
func TestByChance(t *testing.T) {
	found := make([]kinds, 300)
	var all sync.WaitGroup
	for first := range 8 {
		all.Go(func() {
			for seed := first; seed < len(found); seed += 8 {
				found[seed] = asPlain(t, int64(seed))
			}
		})
	}
	all.Wait()
	var k kinds
	for _, x := range found {
		k = kinds{k.facts + x.facts, k.first + x.first, k.whole + x.whole, k.long + x.long, k.some + x.some}
	}
	if k.facts < 1500 || k.first < 100 || k.whole < 150 || k.long < 40 || k.some < 80 {
		t.Errorf("too much alike: of %d facts %d have another Support from the first on, %d against the whole set, %d a long one, %d some needed clauses", k.facts, k.first, k.whole, k.long, k.some)
	}
}
