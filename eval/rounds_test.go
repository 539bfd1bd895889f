package eval_test

import (
	"slices"
	"testing"

	"hearsay/api"
	"hearsay/clause"
	"hearsay/eval"
)

// P10.1 to P10.3, P10.7 to P10.9.

// wantPlain: the model is the plain version's, and what the promises say of every model.
func wantPlain(t *testing.T, cs []api.Clause) {
	t.Helper()
	m, want := run(t, cs), plainModel(cs)
	if !sameModel(m, want) {
		t.Errorf("P10.1: the model of %v has the rules %v, %d rounds and %v; want %v, %d rounds and %v", syntaxAll(cs), syntaxAll(m.Rules), m.Rounds, toldAll(m), syntaxAll(want.Rules), want.Rounds, toldAll(want))
	}
	wantLeast(t, m)
	wantClosed(t, m, append(constants(cs), num(-77), txt("nobody")))
	wantRounds(t, cs, m)
}

// wantLeast: P10.7: each fact's rule and values are an instance that gives it, from facts of smaller rounds, one of them of the round just before.
func wantLeast(t *testing.T, m api.Model) {
	t.Helper()
	known := roundsOf(m)
	for _, k := range m.Facts {
		if k.Rule < 0 || k.Rule >= len(m.Rules) || len(k.Vals) != len(variables(m.Rules[k.Rule])) {
			t.Fatalf("P10.7: %v has no rule, or other values than its rule's", told(k))
		}
		c := m.Rules[k.Rule]
		if !sameAtom(become(k.Vals, c.Head), k.Fact) || !allHold(k.Vals, c) {
			t.Errorf("P10.7: %v isn't what its rule gives", told(k))
		}
		last := 0
		for _, x := range c.Body {
			n := known[keyOf(become(k.Vals, x))]
			if n == 0 {
				t.Errorf("P10.7: %v isn't known, from which %v comes", become(k.Vals, x), told(k))
			}
			last = max(last, n)
		}
		if last != k.Round-1 {
			t.Errorf("P10.7: %v comes from facts of round %d", told(k), last)
		}
	}
}

// wantClosed: P10.7: each instance over these constants whose body is known and whose tests hold has a head that is known, one round behind its body at most.
func wantClosed(t *testing.T, m api.Model, constants []api.Term) {
	t.Helper()
	known := roundsOf(m)
	for _, c := range m.Rules {
		for _, vals := range eachValues(constants, len(variables(c))) {
			if !known.has(vals, c.Body) || !allHold(vals, c) {
				continue
			}
			last := 0
			for _, x := range c.Body {
				last = max(last, known[keyOf(become(vals, x))])
			}
			if n := known[keyOf(become(vals, c.Head))]; n == 0 || n > last+1 {
				t.Errorf("P10.7: %v has the round %d, and follows from facts of round %d", become(vals, c.Head), n, last)
			}
		}
	}
}

// wantRounds: P10.8, and that the facts rise.
func wantRounds(t *testing.T, cs []api.Clause, m api.Model) {
	t.Helper()
	found := make([]int, m.Rounds+1)
	for i, k := range m.Facts {
		if k.Round < 1 || k.Round >= m.Rounds {
			t.Fatalf("P10.8: %v of %d rounds", told(k), m.Rounds)
		}
		if i > 0 && compareAtoms(m.Facts[i-1].Fact, k.Fact) >= 0 {
			t.Errorf("P10.1: %v stands behind %v", told(k), told(m.Facts[i-1]))
		}
		found[k.Round]++
	}
	if slices.Contains(found[1:m.Rounds], 0) {
		t.Errorf("P10.8: a round ahead of the last one finds nothing: %v", found)
	}
	if m.Rounds > clause.Bound(cs) || m.Rounds > len(m.Facts)+1 {
		t.Errorf("P10.8: %d rounds, %d facts, the bound is %d", m.Rounds, len(m.Facts), clause.Bound(cs))
	}
}

// wantBoth: as told, and as the plain version has it.
func wantBoth(t *testing.T, cs []api.Clause, rounds int, want ...string) {
	t.Helper()
	wantModel(t, cs, rounds, want...)
	wantPlain(t, cs)
}

// TestNotInTheSameRound: each rule could use what the one ahead of it finds, or the one behind it; neither may in the same round.
func TestNotInTheSameRound(t *testing.T) {
	wantBoth(t, readAll(t, "p0.", "p1 :- p0.", "p2 :- p1.", "p3 :- p2."), 5, "p0 1 0 []", "p1 2 1 []", "p2 3 2 []", "p3 4 3 []")
	wantBoth(t, readAll(t, "p0 :- p1.", "p1 :- p2.", "p2 :- p3.", "p3."), 5, "p0 4 0 []", "p1 3 1 []", "p2 2 2 []", "p3 1 3 []")
	wantBoth(t, readAll(t, "p(1).", "p(2) :- p(1).", "p(3) :- p(2), p(1).", "q(V0) :- p(V0)."), 5, "p(1) 1 0 []", "p(2) 2 1 []", "p(3) 3 2 []", "q(1) 2 3 [1]", "q(2) 3 3 [2]", "q(3) 4 3 [3]")
	// By one rule alone: what it finds it could use itself.
	wantBoth(t, readAll(t, "n(0).", "n(V0) :- n(V1), s(V1, V0).", "s(0, 1).", "s(1, 2)."), 4, "n(0) 1 0 []", "n(1) 2 1 [1, 0]", "n(2) 3 1 [2, 1]", "s(0, 1) 1 2 []", "s(1, 2) 1 3 []")
	// A clause without a body is used in round 2 first, by rules of whatever place.
	wantBoth(t, readAll(t, "a :- m.", "m.", "z :- m."), 3, "a 2 0 []", "m 1 1 []", "z 2 2 []")
	// A whole turn through all, ahead of which nothing of it is used.
	wantBoth(t, readAll(t, "a.", "b :- a, c.", "c :- a.", "d :- b, c."), 5, "a 1 0 []", "b 3 1 []", "c 2 2 []", "d 4 3 []")
}

// TestFoundAgain: a fact keeps its round and its derivation when a lesser rule, or lesser values, give it later.
func TestFoundAgain(t *testing.T) {
	wantBoth(t, readAll(t, "p(V0) :- q(V0).", "p(V0) :- r(V0).", "q(V0) :- r(V0).", "r(a)."), 3, "p(a) 2 1 [a]", "q(a) 2 2 [a]", "r(a) 1 3 []")
	wantBoth(t, readAll(t, "p(V0) :- q(V0, V1).", "q(a, 1) :- r.", "q(a, 2).", "r."), 3, "p(a) 2 0 [a, 2]", "q(a, 1) 2 1 []", "q(a, 2) 1 2 []", "r 1 3 []")
	wantBoth(t, readAll(t, "p(a) :- s.", "p(V0) :- q(V0).", "q(a).", "s :- q(a)."), 3, "p(a) 2 1 [a]", "q(a) 1 2 []", "s 2 3 []")
	// By the same rule and values again and again, and by a rule that needs what it gives.
	wantBoth(t, readAll(t, "p(a).", "p(V0) :- p(V0).", "p(V0) :- p(V0), q.", "q :- p(a)."), 3, "p(a) 1 0 []", "q 2 3 []")
	// A rule without a body is behind the others only in the clauses' order, and is ahead of them by its round.
	wantBoth(t, readAll(t, "p(a) :- 1 < 2.", "p(a) :- q.", "q."), 2, "p(a) 1 0 []", "q 1 2 []")
}

// TestOneRoundSeveralWays: the least rule that gives a fact in its round, and of that the least values.
func TestOneRoundSeveralWays(t *testing.T) {
	wantBoth(t, readAll(t, "p(V0) :- q(V0).", "p(V0) :- r(V0).", "q(a).", "r(a).", "r(b)."), 3, "p(a) 2 0 [a]", "p(b) 2 1 [b]", "q(a) 1 2 []", "r(a) 1 3 []", "r(b) 1 4 []")
	wantBoth(t, readAll(t, "p(a) :- q(V0).", "p(V0) :- q(V0).", "q(a).", "q(b)."), 3, "p(a) 2 0 [a]", "p(b) 2 1 [b]", "q(a) 1 2 []", "q(b) 1 3 []")
	// The rule counts more than the values: the greater rule's values are less.
	wantBoth(t, readAll(t, "p(c) :- q(V0), V0 != a.", "p(c) :- r(V0).", "q(a).", "q(b).", "r(a)."), 3, "p(c) 2 0 [b]", "q(a) 1 2 []", "q(b) 1 3 []", "r(a) 1 4 []")
	// The first value that differs decides, not the sum of them.
	wantBoth(t, readAll(t, "p :- q(V0, V1).", "q(1, 9).", "q(2, 0)."), 3, "p 2 0 [1, 9]", "q(1, 9) 1 1 []", "q(2, 0) 1 2 []")
	// Without a body: the first whose tests hold.
	wantBoth(t, readAll(t, "p :- 1 = 2.", "p :- 1 = 1, 2 = 2.", "p :- 1 < 2, 2 < 3."), 2, "p 1 1 []")
	wantBoth(t, readAll(t, "p.", "p :- 1 = 1."), 2, "p 1 0 []")
}

// TestWaysThroughSeveralAtoms: what is new is one atom's fact for some values and another's for others; the least values are those of the whole rule.
func TestWaysThroughSeveralAtoms(t *testing.T) {
	cs := readAll(t, "p(V0) :- q(V0, V1), r(V1, V2).", "q(a, 2) :- on.", "q(a, 1).", "r(2, 5).", "r(1, 7) :- on.", "on.")
	wantBoth(t, cs, 4, "on 1 0 []", "p(a) 3 1 [a, 1, 7]", "q(a, 1) 1 2 []", "q(a, 2) 2 3 []", "r(1, 7) 2 4 []", "r(2, 5) 1 5 []")
	cs = readAll(t, "p(V0) :- q(V0, V1), r(V1, V2).", "q(a, 1) :- on.", "q(a, 2).", "r(1, 5).", "r(2, 7) :- on.", "on.")
	wantBoth(t, cs, 4, "on 1 0 []", "p(a) 3 1 [a, 1, 5]", "q(a, 1) 2 2 []", "q(a, 2) 1 3 []", "r(1, 5) 1 4 []", "r(2, 7) 2 5 []")
	// Three atoms; the least values need two new facts, the others one.
	cs = readAll(t, "p :- q(V0), q(V1), q(V2), V0 != V1, V1 != V2.", "q(1) :- on.", "q(2) :- on.", "q(3).", "on.")
	wantBoth(t, cs, 4, "on 1 0 []", "p 3 1 [1, 2, 1]", "q(1) 2 2 []", "q(2) 2 3 []", "q(3) 1 4 []")
	// The last variable is the one that decides, and its atom is the first.
	cs = readAll(t, "p(V0) :- q(V0, V1), q(V1, V0), V0 <= V1.", "q(1, 2).", "q(2, 1) :- on.", "q(1, 3) :- on.", "q(3, 1).", "on.")
	wantBoth(t, cs, 4, "on 1 0 []", "p(1) 3 1 [1, 2]", "q(1, 2) 1 2 []", "q(1, 3) 2 3 []", "q(2, 1) 2 4 []", "q(3, 1) 1 5 []")
}

// TestKindsOfValues: a number, a text of the same signs, a name, in their order, each once the least.
func TestKindsOfValues(t *testing.T) {
	texts := []string{"s(a, -5).", "s(a, 0).", "s(a, 7).", "s(a, 40).", `s(a, "").`, `s(a, "-5").`, `s(a, "7").`, `s(a, "A").`, "s(a, a).", "s(a, ab).", "s(a, b)."}
	least := []string{"-5", "0", "7", "40", `""`, `"-5"`, `"7"`, `"A"`, "a", "ab", "b"}
	for i := range texts {
		cs := readAll(t, append([]string{"r(V0) :- s(V0, V1)."}, texts[i:]...)...)
		slices.Reverse(cs)
		m := run(t, cs)
		if got := told(m.Facts[0]); got != "r(a) 2 0 [a, "+least[i]+"]" {
			t.Errorf("P10.3: of %v: %s", syntaxAll(cs), got)
		}
		wantPlain(t, cs)
	}
	// The three are different constants wherever they stand.
	wantBoth(t, readAll(t, "p(V0) :- q(V0), r(V0).", "q(7).", `r("7").`, "q(seven).", "r(seven)."), 3, "p(seven) 2 0 [seven]", "q(7) 1 1 []", "q(seven) 1 2 []", `r("7") 1 3 []`, "r(seven) 1 4 []")
}

// TestQualifiers: none, a principal, a variable, in heads and bodies.
func TestQualifiers(t *testing.T) {
	said := []string{"ok(x).", "ann says ok(x).", "bob says ok(y)."}
	wantBoth(t, readAll(t, append(said, "p(V0) :- ok(V0).")...), 3, "ok(x) 1 0 []", "ann says ok(x) 1 1 []", "bob says ok(y) 1 2 []", "p(x) 2 3 [x]")
	wantBoth(t, readAll(t, append(said, "p(V0) :- bob says ok(V0).")...), 3, "ok(x) 1 0 []", "ann says ok(x) 1 1 []", "bob says ok(y) 1 2 []", "p(y) 2 3 [y]")
	wantBoth(t, readAll(t, append(said, "p(V0, V1) :- V1 says ok(V0).")...), 3, "ok(x) 1 0 []", "ann says ok(x) 1 1 []", "bob says ok(y) 1 2 []", "p(x, ann) 2 3 [x, ann]", "p(y, bob) 2 3 [y, bob]")
	wantBoth(t, readAll(t, "ok(x).", "p(V0) :- V1 says ok(V0)."), 2, "ok(x) 1 0 []")
	// The variable is bound elsewhere to what isn't a principal, or to one who says nothing.
	wantBoth(t, readAll(t, "ann says ok.", "p(V0) :- d(V0), V0 says ok.", "d(7).", `d("").`, "d(bob).", "d(ann)."), 3, "d(7) 1 0 []", `d("") 1 1 []`, "d(ann) 1 2 []", "d(bob) 1 3 []", "ann says ok 1 4 []", "p(ann) 2 5 [ann]")
	// Who says it is the one of whom it is said.
	wantBoth(t, readAll(t, "ann says ok(ann).", "ann says ok(bob).", "p(V0) :- V0 says ok(V0)."), 3, "ann says ok(ann) 1 0 []", "ann says ok(bob) 1 1 []", "p(ann) 2 2 [ann]")
	// A head that a principal says feeds those that ask for it, and no other.
	wantBoth(t, readAll(t, "on.", "ann says good :- on.", "p(V0) :- V0 says good.", "q :- good.", "r :- bob says good."), 4, "ann says good 2 0 []", "on 1 1 []", "p(ann) 3 2 [ann]")
}

// TestTests: without variables, and such as fail for some values.
func TestTests(t *testing.T) {
	wantBoth(t, readAll(t, "p :- 2 < 1.", "q :- 1 < 2.", "r(a) :- 1 = 1, 1 != 1.", "s."), 2, "q 1 1 []", "s 1 3 []")
	wantBoth(t, readAll(t, "p :- 2 < 1."), 1)
	wantBoth(t, readAll(t, "p(V0) :- d(V0), 2 < 1.", "q(V0) :- d(V0), 1 <= 1.", "d(1)."), 3, "d(1) 1 0 []", "q(1) 2 2 [1]")
	wantBoth(t, readAll(t, "lt(V0, V1) :- d(V0), d(V1), V0 < V1.", "d(2).", "d(1).", `d("1").`), 3, "d(1) 1 0 []", "d(2) 1 1 []", `d("1") 1 2 []`, "lt(1, 2) 2 3 [1, 2]", `lt(1, "1") 2 3 [1, "1"]`, `lt(2, "1") 2 3 [2, "1"]`)
	wantBoth(t, readAll(t, "le(V0, V1) :- d(V0), d(V1), V0 <= V1, V1 != 2.", "d(2).", "d(1)."), 3, "d(1) 1 0 []", "d(2) 1 1 []", "le(1, 1) 2 2 [1, 1]")
	wantBoth(t, readAll(t, "eq(V0) :- d(V0, V1), V0 = V1.", "d(1, 1).", `d(1, "1").`, "d(1, 2)."), 3, "d(1, 1) 1 0 []", "d(1, 2) 1 1 []", `d(1, "1") 1 2 []`, "eq(1) 2 3 [1, 1]")
	// The least values fail, so the next ones give the fact.
	wantBoth(t, readAll(t, "p :- d(V0), V0 != 1.", "d(1).", "d(2).", "d(3)."), 3, "d(1) 1 0 []", "d(2) 1 1 []", "d(3) 1 2 []", "p 2 3 [2]")
}

// TestRulesThatFeedEachOther: and nothing else, give nothing.
func TestRulesThatFeedEachOther(t *testing.T) {
	wantBoth(t, readAll(t, "p :- q.", "q :- p."), 1)
	wantBoth(t, readAll(t, "p(V0) :- q(V0).", "q(V0) :- r(V0).", "r(V0) :- p(V0).", "r(a) :- p(a), q(a)."), 1)
	wantBoth(t, readAll(t, "p(a, b) :- p(b, a).", "p(b, a) :- p(a, b).", "q."), 2, "q 1 2 []")
	wantBoth(t, readAll(t, "p :- q, r.", "q :- p.", "r."), 2, "r 1 2 []")
	// Predicates that differ in their number of arguments alone have nothing to do with one another.
	wantBoth(t, readAll(t, "p(V0) :- p(V0, V1).", "p(V0, V0) :- p(V0).", "p."), 2, "p 1 0 []")
}

// TestAllSmallPrograms: every set of up to three of these clauses.
func TestAllSmallPrograms(t *testing.T) {
	all := readAll(t, "p(a).", "p(1) :- q.", "p(V0) :- q(V0).", "q.", "q :- p(a), p(1).", "q(a) :- p(a).", "q(V0) :- p(V0), V0 != a.", "q(V0) :- V0 says p(V1).", "ann says p(V0) :- p(V0), q.", "q :- q.")
	for i := range all {
		for k := range i + 1 {
			for l := range k + 1 {
				wantPlain(t, []api.Clause{all[i], all[k], all[l]})
			}
		}
	}
	wantPlain(t, all)
}

// TestByChance: and that chance brings what the promises are about.
func TestByChance(t *testing.T) {
	deep, wide := 0, 0
	for seed := range int64(1000) {
		cs := newChosen(seed).program()
		wantPlain(t, cs)
		m := run(t, cs)
		if m.Rounds >= 5 {
			deep++
		}
		if len(m.Facts) > 20 {
			wide++
		}
	}
	if deep < 100 || wide < 20 {
		t.Errorf("of 1000 programs %d have five rounds and more, %d more than twenty facts: too few to tell something", deep, wide)
	}
}

// TestAnyOrder: of the clauses, with doubles.
func TestAnyOrder(t *testing.T) {
	for seed := range int64(100) {
		c := newChosen(seed)
		cs := c.program()
		m := run(t, cs)
		for range 5 {
			mixed := c.mixed(slices.Concat(cs, cs[:c.Intn(len(cs)+1)]))
			if x := run(t, mixed); !sameModel(x, m) {
				t.Errorf("R5: the model of %v is %v, and in another order %v", syntaxAll(cs), m, x)
			}
		}
	}
	small := readAll(t, "p(V0) :- q(V0, V1), p(V1).", "p(a).", "q(b, a).", "q(b, V0) :- p(V0).", "p(V0) :- q(V0, b).")
	m := run(t, small)
	for o := range orders(small) {
		if x := run(t, o); !sameModel(x, m) {
			t.Errorf("R5: the model of %v is %v, and in another order %v", syntaxAll(o), x, m)
		}
	}
}

// TestOrderInBodies: P10.2: no order of atoms in bodies changes a fact's round.
func TestOrderInBodies(t *testing.T) {
	for seed := range int64(150) {
		c := newChosen(seed)
		cs := c.program()
		var other []api.Clause
		for _, x := range cs {
			body := slices.Clone(x.Body)
			c.Shuffle(len(body), func(i, k int) { body[i], body[k] = body[k], body[i] })
			other = append(other, clause.Normal(with(rule(x.Head, body...), x.Tests...)))
		}
		m, n := run(t, cs), run(t, other)
		if !slices.EqualFunc(m.Facts, n.Facts, func(x, y api.Known) bool { return sameAtom(x.Fact, y.Fact) && x.Round == y.Round }) {
			t.Errorf("P10.2: %v has %v; with other orders in bodies %v", syntaxAll(cs), toldAll(m), toldAll(n))
		}
	}
}

// TestMoreClauses: P10.9.
func TestMoreClauses(t *testing.T) {
	for seed := range int64(150) {
		c := newChosen(seed)
		cs := c.program()
		m := run(t, cs)
		for _, more := range [][]api.Clause{{c.fact()}, {c.rule()}, c.chain(), c.program()} {
			known := roundsOf(run(t, slices.Concat(cs, more)))
			for _, k := range m.Facts {
				if n := known[keyOf(k.Fact)]; n == 0 || n > k.Round {
					t.Errorf("P10.9: %v has the round %d of %v and %v", told(k), n, syntaxAll(cs), syntaxAll(more))
				}
			}
		}
	}
}

// TestLongChains: many rounds, with one atom of the body that is found anew, and with two.
func TestLongChains(t *testing.T) {
	var edges []api.Clause
	for n := range 60 {
		edges = append(edges, rule(atom("edge", num(n), num(n+1))))
	}
	for _, x := range []struct {
		text   string
		rounds int
	}{
		{"path(V0, V1) :- edge(V0, V2), path(V2, V1).", 62},
		{"path(V0, V1) :- path(V0, V2), edge(V2, V1).", 62},
		{"path(V0, V1) :- path(V0, V2), path(V2, V1).", 9}, // a round doubles the lengths: 1 in round 2, 64 in round 8
	} {
		cs := slices.Concat(edges, readAll(t, "path(V0, V1) :- edge(V0, V1).", x.text))
		m := run(t, cs)
		if m.Rounds != x.rounds || len(m.Facts) != 60+60*61/2 {
			t.Errorf("P10.2: with %s %d rounds, %d facts", x.text, m.Rounds, len(m.Facts))
		}
		wantLeast(t, m)
		wantRounds(t, cs, m)
	}
}

// TestLongLine: as many rounds as there are clauses, and one.
func TestLongLine(t *testing.T) {
	cs := []api.Clause{rule(q(num(0)))}
	for n := range 999 {
		cs = append(cs, rule(q(num(n+1)), q(num(n))))
	}
	m, err := eval.Whole(newChosen(3).mixed(cs))
	if err != api.OK || m.Rounds != 1001 || len(m.Facts) != 1000 {
		t.Fatalf("P10.8: %d rounds, %d facts, %d", m.Rounds, len(m.Facts), err)
	}
	for n, k := range m.Facts {
		if !sameAtom(k.Fact, q(num(n))) || k.Round != n+1 || k.Rule != n || len(k.Vals) != 0 {
			t.Errorf("P10.2: %v", told(k))
		}
	}
}

// TestTheGreatestClause: 72 variables, each with its value.
func TestTheGreatestClause(t *testing.T) {
	c := rule(p())
	var want []api.Term
	for i := range 8 {
		x := by(v(9*i), q())
		for k := range 8 {
			x.Args = append(x.Args, v(9*i+k+1))
		}
		c.Body = append(c.Body, x)
		want = append(append(want, ann), nTimes(8, num(4))...)
	}
	m := run(t, []api.Clause{c, rule(by(ann, q(nTimes(8, num(4))...))), rule(q(nTimes(8, num(3))...))})
	if len(m.Facts) != 3 || !sameKnown(m.Facts[0], api.Known{Fact: p(), Round: 2, Rule: 0, Vals: want}) {
		t.Errorf("P10.3: the facts are %v", m.Facts)
	}
}
