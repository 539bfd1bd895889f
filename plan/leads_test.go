package plan_test

import (
	"slices"
	"testing"

	"hearsay/api"
	"hearsay/base"
	"hearsay/clause"
	"hearsay/plan"
)

// P9.4, P9.5.

// oldOnly: a base that has the old part of s, and nothing else.
func oldOnly(t *testing.T, s *base.Base) *base.Base {
	t.Helper()
	return parts(t, s.Facts(api.PartOld), nil, nil)
}

func compareSolutions(x, y []api.Term) int { return slices.CompareFunc(x, y, compareTerms) }

func wantParts(t *testing.T, s *base.Base, c api.Clause) {
	t.Helper()
	l := solved(t, oldOnly(t, s), c, -1)
	for lead := range c.Body {
		l = append(l, solved(t, s, c, lead)...)
	}
	slices.SortFunc(l, compareSolutions)
	if all := solved(t, s, c, -1); !sameSolutions(all, l) {
		t.Errorf("P9.4: %v has the solutions %v; those of the old part and the leads are %v", c, all, l)
	}
}

func TestTheLeadsAreParts(t *testing.T) {
	s := exampleBase(t)
	for range 4 {
		for _, text := range []string{pathText, "good(V0) :- V1 says ok(V0), V1 != bob.", "p(V0, V1, V2) :- edge(V0, V1), edge(V1, V2), V0 <= V2.", "p :- edge(V0, V1), edge(V2, V3), edge(V4, V5), V6 says ok(V7).", "on.", "on :- ann says on."} {
			wantParts(t, s, read(t, text))
		}
		s.Turn()
	}
	for seed := range int64(300) {
		ch := newChosen(seed)
		x := ch.base(t)
		for range 8 {
			wantParts(t, x.s, ch.clause())
		}
	}
}

// TestTheLeadsFollowTheTurns: what the leads told behind each turn, put together, are all solutions, each once.
func TestTheLeadsFollowTheTurns(t *testing.T) {
	for seed := range int64(100) {
		ch := newChosen(seed)
		c := ch.clause()
		if len(c.Body) == 0 {
			continue
		}
		x := newBoth(t)
		var told [][]api.Term
		for range 6 {
			for range ch.Intn(8) {
				x.add(ch.fact())
			}
			x.turn()
			for lead := range c.Body {
				told = append(told, solved(t, x.s, c, lead)...)
			}
			slices.SortFunc(told, compareSolutions)
			wantSolve(t, x.s, c, -1, told...)
		}
	}
}

// wantStay: all of the first list are in the second one.
func wantStay(t *testing.T, what string, x, y [][]api.Term) {
	t.Helper()
	for _, l := range x {
		if !slices.ContainsFunc(y, func(m []api.Term) bool { return slices.Equal(l, m) }) {
			t.Errorf("P9.5: %s: the solution %v is gone", what, l)
		}
	}
}

func TestMoreFacts(t *testing.T) {
	for seed := range int64(60) {
		ch := newChosen(seed)
		x := newBoth(t)
		var clauses []api.Clause
		for range 10 {
			clauses = append(clauses, ch.clause())
		}
		for range 12 {
			var before [][][]api.Term
			for _, c := range clauses {
				before = append(before, solved(t, x.s, c, -1))
			}
			if ch.Intn(3) == 0 {
				x.turn()
			} else {
				x.add(ch.fact(), ch.fact())
			}
			for i, c := range clauses {
				wantStay(t, "more facts, or a turn", before[i], solved(t, x.s, c, -1))
			}
		}
	}
}

// someSets: what comes ahead of each turn.
func someSets(ch *chosen) [][]api.Atom {
	sets := make([][]api.Atom, 3)
	for i := range sets {
		for range ch.Intn(15) {
			sets[i] = append(sets[i], ch.fact())
		}
	}
	return sets
}

// played: a base to which the sets came, a turn behind each but the last.
func played(sets [][]api.Atom) *base.Base {
	s := base.New()
	for i, set := range sets {
		if i > 0 {
			s.Turn()
		}
		for _, f := range set {
			s.Add(f)
		}
	}
	return s
}

// wantAlike: all calls answer alike over the two bases.
func wantAlike(t *testing.T, what string, x, y *base.Base, c api.Clause, leads []int) {
	t.Helper()
	for _, lead := range leads {
		if l, m := solved(t, x, c, lead), solved(t, y, c, lead); !sameSolutions(l, m) {
			t.Errorf("P9.5: %s: %v, lead %d: %v and %v", what, c, lead, l, m)
		}
		l, _ := plan.Fire(x, c, lead)
		m, _ := plan.Fire(y, c, lead)
		if !same(l, m) {
			t.Errorf("P9.5: %s: %v, lead %d: %v and %v", what, c, lead, l, m)
		}
	}
}

// TestOtherOrdersOfComing: the facts of each set shuffled, some of them twice, and asked for between.
func TestOtherOrdersOfComing(t *testing.T) {
	for seed := range int64(100) {
		ch := newChosen(seed)
		c := ch.clause()
		sets := someSets(ch)
		first := played(sets)
		for range 3 {
			for i, set := range sets {
				set = append(set, set[:len(set)/2]...)
				ch.Shuffle(len(set), func(i, k int) { set[i], set[k] = set[k], set[i] })
				sets[i] = set
			}
			wantAlike(t, "another order", first, played(sets), c, append(upTo(len(c.Body)), -1))
		}
	}
}

// TestTurnsBetween: where all are in the old or the new part, it isn't seen with lead -1 in which.
func TestTurnsBetween(t *testing.T) {
	for seed := range int64(100) {
		ch := newChosen(seed)
		c := ch.clause()
		set := slices.Concat(someSets(ch)...)
		first := played([][]api.Atom{set, nil})
		s := base.New()
		for _, f := range set {
			s.Add(f)
			if ch.Intn(3) == 0 {
				s.Turn()
			}
		}
		s.Turn()
		wantAlike(t, "turns between", first, s, c, numbers(-1))
		s.Turn()
		s.Turn()
		wantAlike(t, "all in the old part", first, s, c, numbers(-1))
	}
}

// TestOtherOrdersOfTheBody: the solutions are the same, but for the numbers of the variables.
func TestOtherOrdersOfTheBody(t *testing.T) {
	for seed := range int64(200) {
		ch := newChosen(seed)
		x := ch.base(t)
		c := ch.clause()
		other := copied(c)
		slices.Reverse(other.Body)
		slices.Reverse(other.Tests)
		other = clause.Normal(other)
		l, _ := plan.Fire(x.s, c, -1)
		m, err := plan.Fire(x.s, other, -1)
		if !same(l, m) || err != api.OK {
			t.Errorf("P9.3: %v fires %v, %v fires %v, %d", c, l, other, m, err)
		}
	}
}
