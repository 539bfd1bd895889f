package subsume_test

import (
	"testing"

	"hearsay/api"
	"hearsay/subsume"
)

// P14.3, P14.6: Condense.

// TestCondensedAlready: no parts, one part, parts that have nothing to do with one another, and parts that hold each other.
func TestCondensedAlready(t *testing.T) {
	for _, c := range texts("p.", "ann says p(1, \"\").", "p :- q.", "p(V0) :- q(V0).", "p :- 2 < 1.", "p :- q, 2 < 1.", "p :- q(a), q(b).", "p :- q, ann says q, bob says q.", "p :- q(V0), q(V0, V1).",
		"p(V0, V1) :- q(V0), q(V1).", "p(V0) :- e(V0, V1), e(V1, V0).", "p :- e(V0, V1), e(V1, V2).", "p :- e(V0, V1), e(V1, V2), e(V2, V0).", "p :- q(V0), q(V1), V0 != V1.", "p :- q(V0), q(V1), V0 < V1, V1 < V0.",
		"p :- q(V0), V0 != a, a != V0.", "p :- q(V0), V0 < a, V0 <= a.", "p :- q(V0), V0 = V0.", "p :- q(V0), q(a), V0 != a.", "p :- V0 says q, q.", "p(V0) :- V0 says q, V1 says r(V0).", "p :- p.", "p :- q(V0), r(V0), q(a).") {
		wantStays(t, c)
	}
}

func TestCondense(t *testing.T) {
	for c, want := range map[string]string{
		// Doubles.
		"p :- q, q.":                                   "p :- q.",
		"p :- q(a), r, q(a), r, q(a).":                 "p :- q(a), r.",
		"p(V0) :- q(V0), q(V0).":                       "p(V0) :- q(V0).",
		"p :- V0 says q(V1), V0 says q(V1).":           "p :- V0 says q(V1).",
		"p :- q(V0), V0 != a, V0 != b, V0 != a.":       "p :- q(V0), V0 != a, V0 != b.",
		"p :- q, 2 < 1, 2 < 1.":                        "p :- q, 2 < 1.",
		"p :- 2 < 1, 2 < 1, 3 < 1.":                    "p :- 2 < 1, 3 < 1.",
		"p :- e(V0, V1), e(V0, V1), V0 < V1, V0 < V1.": "p :- e(V0, V1), V0 < V1.",
		// Tests that hold, whatever the facts are.
		"p :- 1 < 2.":                       "p.",
		"p(a) :- 1 = 1, a != b, 7 <= \"\".": "p(a).",
		"p :- q, 1 < 2, 2 < 1, 2 <= 2.":     "p :- q, 2 < 1.",
		"ann says p(V0) :- q(V0), a < b.":   "ann says p(V0) :- q(V0).",
		// What says less than another part.
		"p :- q(V0), q(a).":                                           "p :- q(a).",
		"p :- q(a), q(V0).":                                           "p :- q(a).",
		"p(V0) :- q(V1), q(V0).":                                      "p(V0) :- q(V0).",
		"p :- V0 says q, ann says q.":                                 "p :- ann says q.",
		"p :- V0 says q, V1 says q.":                                  "p :- V0 says q.",
		"p :- q(V0), r(V1), q(V1).":                                   "p :- r(V0), q(V0).",
		"p :- e(V0, V1), e(V2, V3), e(V0, V4).":                       "p :- e(V0, V1).",
		"p(V0) :- e(V0, V1), e(V0, V2), q(V2).":                       "p(V0) :- e(V0, V1), q(V1).",
		"p(V0) :- e(V0, V1), e(V1, V2), e(V3, V4).":                   "p(V0) :- e(V0, V1), e(V1, V2).",
		"p :- e(V0, V1), e(V1, V2), e(V2, V2).":                       "p :- e(V0, V0).",
		"p :- e(a, V0), e(V1, b), e(a, b).":                           "p :- e(a, b).",
		"p :- e(V0, V1), e(V1, V0), e(V2, V3), e(V3, V4), e(V4, V5).": "p :- e(V0, V1), e(V1, V0).",
		// With tests: what a part may become, its tests must allow.
		"p :- q(V0), q(V1), V0 != a, V1 != a.":                   "p :- q(V0), V0 != a.",
		"p :- q(V0), q(b), V0 != a.":                             "p :- q(b).",
		"p :- q(V0), q(a), q(b), V0 != a.":                       "p :- q(a), q(b).",
		"p :- q(V0), q(1), q(2), V0 < 2.":                        "p :- q(1), q(2).",
		"p :- q(V0), q(V1), V0 != a.":                            "p :- q(V0), V0 != a.",
		"p(V0) :- q(V0), q(V1), V1 != a.":                        "p(V0) :- q(V0), q(V1), V1 != a.",
		"p(V0) :- q(V0), q(V1), V0 != a, V1 != a, V0 != b.":      "p(V0) :- q(V0), V0 != a, V0 != b.",
		"p :- e(V0, V1), e(V1, V2), e(a, a), V0 != V2.":          "p :- e(V0, V1), e(V1, V2), e(a, a), V0 != V2.",
		"p :- e(V0, V1), e(V1, V2), e(a, b), e(b, c), V0 != V2.": "p :- e(a, b), e(b, c).",
	} {
		wantCondensed(t, c, want)
		if plain := plainCondense(read(t, c)); !sameClause(plain, read(t, want)) {
			t.Errorf("the plain version of %s has %q", c, told(rules(plain)))
		}
	}
}

// TestWhatBindsAVariableStays: of the head, and of a test that stays.
func TestWhatBindsAVariableStays(t *testing.T) {
	wantStays(t, "p(V0) :- q(V0), q(a).")
	wantStays(t, "p(V0, V1) :- q(V0), q(V1), q(a).")
	wantStays(t, "p(V0) :- V0 says q, ann says q.")
	wantStays(t, "p(V0) :- e(V0, V1), e(a, V1).")
	wantCondensed(t, "p(V0) :- e(V0, V1), e(V0, V2), e(a, b).", "p(V0) :- e(V0, V1), e(a, b).")
	wantStays(t, "p :- q(V0), q(a), V0 < a.")
	wantStays(t, "p :- q(V0), q(V1), q(a), V0 < V1.")
	wantStays(t, "p :- V0 says q, ann says q, V0 != ann.")
	wantCondensed(t, "p :- q(V0), q(V1), q(V2), q(a), V0 < V1.", "p :- q(V0), q(V1), q(a), V0 < V1.")
	// With its test gone, it may go.
	wantCondensed(t, "p :- q(V0), q(a), V0 <= a.", "p :- q(a).")
	wantCondensed(t, "p :- V0 says q, ann says q, V0 != bob.", "p :- ann says q.")
}

// TestTheOrderOfGoing: clauses of which another part would be left if they were gone through from the first part on.
func TestTheOrderOfGoing(t *testing.T) {
	for c, want := range map[string]string{
		"p :- r, q, r.":                          "p :- r, q.",
		"p :- q(V0), r(V0), s, q(V1), r(V1).":    "p :- q(V0), r(V0), s.",
		"p :- e(V0, V1), q, e(V2, V3).":          "p :- e(V0, V1), q.",
		"p :- q(V0), V0 != a, V0 != b, V0 != a.": "p :- q(V0), V0 != a, V0 != b.",
		"p :- q(V0), r, q(V1), V1 < 1, V0 < 1.":  "p :- r, q(V0), V0 < 1.",
		"p :- V0 says q, r, V1 says q.":          "p :- V0 says q, r.",
	} {
		wantCondensed(t, c, want)
		if other := condensedFromTheFirst(read(t, c)); sameClause(other, read(t, want)) {
			t.Errorf("%s doesn't tell the order", c)
		}
	}
}

// TestNumberedAnew: what is left has its variables numbered as they first stand there, though those ahead have gone.
func TestNumberedAnew(t *testing.T) {
	wantCondensed(t, "p :- e(V0, V1), e(V2, V2).", "p :- e(V0, V0).")
	wantCondensed(t, "p :- e(V0, V1), q(V2), e(V3, a), r(V3, V2).", "p :- q(V0), e(V1, a), r(V1, V0).")
	wantCondensed(t, "p(V0) :- e(V1, V2), e(V3, V0).", "p(V0) :- e(V1, V0).")
	wantCondensed(t, "p :- V0 says q(V1), V2 says q(V2).", "p :- V0 says q(V0).")
	wantCondensed(t, "p :- q(V0), r(V1, V2), q(V2), V2 != V1.", "p :- r(V0, V1), q(V1), V1 != V0.")
	wantCondensed(t, "p :- e(V0, V1), e(V1, V2), e(V3, V4), e(V4, V3), s(V5), s(V4).", "p :- e(V0, V1), e(V1, V0), s(V1).")
}

func TestCondenseRefuses(t *testing.T) {
	for _, x := range refusals() {
		wantCondenseErr(t, x.c, x.err)
	}
}

// TestCondenseByChance: many clauses beside the plain version, and P14.6 as it stands.
func TestCondenseByChance(t *testing.T) {
	changed, first, twice := 0, 0, 0
	c := newChosen(16)
	for range 4000 {
		x := c.clause(4, 3)
		for range c.Intn(3) {
			if y := c.doubledPart(x); len(y.Body) <= 5 && len(variables(y)) <= 4 {
				x = y
			}
		}
		want := plainCondense(x)
		got, err := subsume.Condense(x)
		if !sameClause(got, want) || err != api.OK {
			t.Errorf("P14.3: Condense(%q) is %q, %d, want %q", told(rules(x)), told(rules(got)), err, told(rules(want)))
		}
		wantCondensedWhole(t, x, got)
		changed += count(!sameClause(x, want))
		twice += count(parts(x) > parts(want)+1)
		first += count(!sameClause(want, condensedFromTheFirst(x)))
	}
	if changed < 1600 || twice < 700 || first < 250 {
		t.Errorf("too much alike: %d clauses are changed, %d lose several parts, %d are left otherwise from the first part on", changed, twice, first)
	}
}

// TestUntilNoneGoes: all clauses of three small atoms and one or two tests. As subsuming is an order, what could go in a second turn could have gone in the first, and so the plain version's first turn is the last one that changes something; it is held to here.
func TestUntilNoneGoes(t *testing.T) {
	body := atoms(q(v(0)), q(v(1)), q(a), by(v(1), q(v(0))), by(ann, q(v(0))), atom("e", v(0), v(1)), atom("e", v(1), v(1)))
	tests := [][]api.Test{nil, {test(api.OpNe, v(0), a)}, {test(api.OpLt, v(0), v(1))}, {test(api.OpEq, v(1), v(1)), test(api.OpLe, num(1), num(1))}}
	n := 0
	for _, x := range body {
		for _, y := range body {
			for _, z := range body {
				for _, l := range tests {
					c := numberedAnew(with(rule(p(), x, y, z), l...))
					if !safe(c) {
						continue
					}
					n++
					got, err := subsume.Condense(c)
					if want := oneTurn(c); !sameClause(got, want) || !sameClause(oneTurn(want), want) || err != api.OK {
						t.Errorf("P14.3: Condense(%q) is %q, %d; the first turn leaves %q", told(rules(c)), told(rules(got)), err, told(rules(want)))
					}
				}
			}
		}
	}
	if n < 1000 {
		t.Errorf("just %d clauses", n)
	}
}

// wantCondensedWhole: P14.6 of a condensed clause.
func wantCondensedWhole(t *testing.T, c, got api.Clause) {
	t.Helper()
	wantSubsumed(t, "P14.6", c, got)
	wantSubsumed(t, "P14.6", got, c)
	for i := range parts(got) {
		if mayGo(got, i) {
			t.Errorf("P14.6: of %q the part %d may go", told(rules(got)), i)
		}
	}
	if again, err := subsume.Condense(got); !sameClause(again, got) || err != api.OK {
		t.Errorf("P14.6: %q condensed again is %q, %d", told(rules(got)), told(rules(again)), err)
	}
}
