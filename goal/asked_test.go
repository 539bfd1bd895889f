package goal_test

import (
	"slices"
	"testing"

	"hearsay/api"
	"hearsay/goal"
)

// P16.4: only what is asked for is in the table.

// becomes: whether the atom can be made into the other one, whose variables stand for themselves, whatever its qualifier becomes.
func becomes(x, y api.Atom) bool {
	if x.Name != y.Name || len(x.Args) != len(y.Args) || variable(x.By) && y.By == none {
		return false
	}
	said := map[api.Term]api.Term{}
	for i, from := range columns(x) {
		to := columns(y)[i]
		if !variable(from) {
			said[from] = from
		}
		if before, ok := said[from]; ok && before != to {
			return false
		}
		said[from] = to
	}
	return true
}

// isAsked: whether g may be the goal of a body atom of a clause whose head can be unified with one of the goals.
func isAsked(cs []api.Clause, calls []api.Call, g api.Atom) bool {
	for _, h := range calls {
		for _, c := range cs {
			c, ok := unified(h.Goal, c)
			if ok && slices.ContainsFunc(c.Body, func(x api.Atom) bool { return becomes(x, g) }) {
				return true
			}
		}
	}
	return false
}

// TestEachGoalIsAsked: by a clause that a goal of the table leads to.
func TestEachGoalIsAsked(t *testing.T) {
	n := 0
	for seed := range int64(2500) {
		c := newChosen(seed)
		cs := c.clauses()
		x := c.query(cs)
		calls, _ := tables(t, cs, x)
		own := 0
		for _, y := range calls {
			if sameAtom(y.Goal, goalOf(x)) {
				own++
				continue
			}
			n++
			if !isAsked(cs, calls, y.Goal) {
				t.Errorf("P16.4: of %q, %s: nothing asks for %s", told(cs), toldAtom(x), toldAtom(y.Goal))
			}
		}
		if own != 1 {
			t.Errorf("P16.1: of %q, %s: its own goal is there %d times", told(cs), toldAtom(x), own)
		}
	}
	if n < 3000 {
		t.Errorf("just %d goals", n)
	}
}

// TestOthersAreNeverAsked: predicates that the clauses on the way don't name, whatever clauses there are for them.
func TestOthersAreNeverAsked(t *testing.T) {
	for seed := range int64(600) {
		c := newChosen(seed)
		cs := c.clauses()
		x := c.query(cs)
		want, answers := tables(t, cs, x)
		// The same names with more arguments, and other names, that lean on what is asked for.
		others := append(program(t, "p(X, Y, Z) :- p(X), q(Y), e(X, Z). s(X) :- p(X), s(X). s(a). r(X) :- q(X)."), c.rule(2, 2))
		last := &others[len(others)-1]
		last.Head.Name = "other"
		got, also := tables(t, c.mixed(slices.Concat(cs, others)), x)
		if !sameCalls(got, want) || !same(also, answers) {
			t.Errorf("P16.4: of %q, %s, beside %q: %q, want %q", told(cs), toldAtom(x), told(others), toldCalls(got), toldCalls(want))
		}
	}
}

// TestEachGoalLeadsToItsOwnTable: what a goal asks for is in the table with the same answers.
func TestEachGoalLeadsToItsOwnTable(t *testing.T) {
	n := 0
	for seed := range int64(500) {
		c := newChosen(seed)
		cs := c.clauses()
		x := c.query(cs)
		calls, _ := tables(t, cs, x)
		for _, y := range calls {
			less, err := goal.Tables(cs, y.Goal)
			if kind := y.Goal.By.Kind; kind == api.KindNum || y.Goal.By == txt("") {
				wantErr(t, cs, y.Goal, api.ErrBy)
				continue
			}
			if err != api.OK {
				t.Fatal(err)
			}
			for _, z := range less {
				n++
				if !slices.ContainsFunc(calls, func(u api.Call) bool { return sameCall(u, z) }) {
					t.Errorf("P16.1: of %q, %s: %q isn't there", told(cs), toldAtom(x), toldCalls([]api.Call{z}))
				}
			}
		}
	}
	if n < 2000 {
		t.Errorf("just %d goals", n)
	}
}
