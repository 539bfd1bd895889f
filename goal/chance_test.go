package goal_test

import (
	"math/rand"
	"slices"
	"testing"

	"hearsay/api"
	"hearsay/clause"
	"hearsay/goal"
)

// chosen: clauses and queries by chance, the same at every run. Few names and terms, so that clauses feed each other.
type chosen struct{ *rand.Rand }

func newChosen(seed int64) *chosen { return &chosen{rand.New(rand.NewSource(seed))} }

func one[T any](c *chosen, of ...T) T { return of[c.Intn(len(of))] }

// constants: names of those who can say something, and such as can't.
func constants() []api.Term { return terms(a, ann, num(1), num(2), txt("")) }

// someVars: often enough to be chosen ahead of constants.
func someVars(vars int) []api.Term {
	var l []api.Term
	for i := range vars {
		l = append(l, nTimes(4, v(i))...)
	}
	return l
}

// atom: of p and q with one argument, e with two, r with none; mostly said by nobody.
func (c *chosen) atom(bys, args []api.Term) api.Atom {
	x := one(c, p(one(c, args...)), q(one(c, args...)), atom("e", one(c, args...), one(c, args...)), atom("e", one(c, args...), one(c, args...)), atom("r"))
	x.By = one(c, append(nTimes(6, none), bys...)...)
	return x
}

func (c *chosen) bodyAtom(vars int) api.Atom {
	return c.atom(terms(ann, a, v(c.Intn(vars)), v(c.Intn(vars))), append(constants(), someVars(vars)...))
}

func (c *chosen) fact() api.Clause { return rule(c.atom(terms(ann, ann, a), constants())) }

// rule: a valid clause with one to so many atoms, and often a test or two.
func (c *chosen) rule(most, vars int) api.Clause {
	var out api.Clause
	for range 1 + c.Intn(most) {
		out.Body = append(out.Body, c.bodyAtom(vars))
	}
	out.Head = c.atom(terms(ann, a), append(constants(), slices.Repeat(varsOf(out.Body), 4)...))
	for range one(c, 0, 0, 0, 1, 1, 2) {
		sides := append(constants(), slices.Repeat(varsOf(out.Body), 3)...)
		out.Tests = append(out.Tests, test(one(c, api.OpNe, api.OpNe, api.OpLe, api.OpLe, api.OpLt, api.OpEq), one(c, sides...), one(c, sides...)))
	}
	return clause.Normal(out)
}

func varsOf(l []api.Atom) []api.Term {
	var out []api.Term
	for _, x := range l {
		for _, t := range columns(x) {
			if variable(t) && !slices.Contains(out, t) {
				out = append(out, t)
			}
		}
	}
	return out
}

// clauses: facts and rules, some of them twice.
func (c *chosen) clauses() []api.Clause {
	var cs []api.Clause
	for range c.Intn(24) {
		cs = append(cs, c.fact())
	}
	for range c.Intn(10) {
		cs = append(cs, c.rule(3, 3))
	}
	return c.doubled(cs)
}

// query: with any numbers of variables; mostly one that may be made into a clause's head.
func (c *chosen) query(cs []api.Clause) api.Atom {
	vars := terms(v(0), v(1), v(4), v(9), v(11), v(80), v(greatestInt))
	if len(cs) == 0 || c.Intn(4) == 0 {
		return c.atom(append(terms(ann, a), vars[:3]...), append(constants(), append(vars, vars...)...))
	}
	head := one(c, cs...).Head
	x := each(head, func(u api.Term) api.Term { return one(c, append(vars, u, u)...) })
	if head.By == none {
		x.By = none
	}
	return x
}

// mixed: the clauses in another order.
func (c *chosen) mixed(cs []api.Clause) []api.Clause {
	out := slices.Clone(cs)
	c.Shuffle(len(out), func(i, k int) { out[i], out[k] = out[k], out[i] })
	return out
}

// doubled: the clauses in another order, each at least once, and some again.
func (c *chosen) doubled(cs []api.Clause) []api.Clause {
	out := slices.Clone(cs)
	for range c.Intn(5) {
		if len(cs) > 0 {
			out = append(out, one(c, cs...))
		}
	}
	return c.mixed(out)
}

// tables: what both calls answer of a query that isn't refused.
func tables(t *testing.T, cs []api.Clause, x api.Atom) ([]api.Call, []api.Atom) {
	t.Helper()
	calls, err := goal.Tables(cs, x)
	answers, also := goal.Ask(cs, x)
	if err != api.OK || also != api.OK {
		t.Fatalf("%q, %s: %d, %d", told(cs), toldAtom(x), err, also)
	}
	return calls, answers
}

// TestBesideThePlainVersion: P16.1, P16.2: goals and answers, over clauses by chance.
func TestBesideThePlainVersion(t *testing.T) {
	goals, answered, deep, odd := 0, 0, 0, 0
	for seed := range int64(6000) {
		c := newChosen(seed)
		cs := c.clauses()
		x := c.query(cs)
		calls, answers := tables(t, cs, x)
		want := plainTable(cs, x)
		if !sameCalls(calls, want) {
			t.Errorf("P16.1: Tables(%q, %s) is %q, want %q", told(cs), toldAtom(x), toldCalls(calls), toldCalls(want))
		}
		if !slices.Equal(toldAtoms(answers), answersOf(want, x)) {
			t.Errorf("P16.2: Ask(%q, %s) is %q, want %q", told(cs), toldAtom(x), toldAtoms(answers), answersOf(want, x))
		}
		goals += len(want)
		answered += count(len(answers) > 0)
		deep += count(len(want) > 8)
		odd += count(slices.ContainsFunc(want, func(y api.Call) bool { return y.Goal.By.Kind == api.KindNum || y.Goal.By == txt("") }))
	}
	if goals < 15000 || answered < 1500 || deep < 300 || odd < 100 {
		t.Errorf("too much alike: %d goals, %d answered, %d deep, %d with a qualifier that can't be", goals, answered, deep, odd)
	}
}

// TestLongBodies: of clauses with more atoms, over a few facts.
func TestLongBodies(t *testing.T) {
	answered, deep := 0, 0
	for seed := range int64(1500) {
		c := newChosen(seed)
		var cs []api.Clause
		for range 20 {
			cs = append(cs, c.fact())
		}
		cs = append(cs, c.rule(8, 4), c.rule(5, 6), c.rule(2, 2), c.rule(8, 3))
		x := c.query(cs[20:])
		calls, _ := tables(t, cs, x)
		if want := plainTable(cs, x); !sameCalls(calls, want) {
			t.Errorf("P16.1: Tables(%q, %s) is %q, want %q", told(cs), toldAtom(x), toldCalls(calls), toldCalls(want))
		}
		answered += count(len(answersOf(calls, x)) > 0)
		deep += count(len(calls) > 8)
	}
	if answered < 300 || deep < 100 {
		t.Errorf("too much alike: %d answered, %d deep", answered, deep)
	}
}
