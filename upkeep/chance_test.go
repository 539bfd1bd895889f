package upkeep_test

import (
	"math/rand"
	"slices"
	"testing"

	"hearsay/api"
	"hearsay/clause"
)

// P17.6: scripts by chance: behind every call the looks are those of the model made anew.

// chosen: clauses by chance, the same at every run. Few names and terms, so that clauses feed each other and facts come in several ways.
type chosen struct{ *rand.Rand }

func newChosen(seed int64) *chosen { return &chosen{rand.New(rand.NewSource(seed))} }

func one[T any](c *chosen, of ...T) T { return of[c.Intn(len(of))] }

// constants: names of those who can say something, and such as can't.
func constants() []api.Term { return terms(a, ann, num(1)) }

// atom: of p and q with one argument, e with two, r with none; mostly said by nobody.
func (c *chosen) atom(bys, args []api.Term) api.Atom {
	x := one(c, p(one(c, args...)), q(one(c, args...)), atom("e", one(c, args...), one(c, args...)), atom("e", one(c, args...), one(c, args...)))
	if c.Intn(12) == 0 {
		x = atom("r")
	}
	x.By = one(c, append(nTimes(14, none), bys...)...)
	return x
}

// bodyAtom: mostly with variables, often enough with one in two places.
func (c *chosen) bodyAtom(vars int) api.Atom {
	args := constants()
	for i := range vars {
		args = append(args, nTimes(8, v(i))...)
	}
	return c.atom(terms(ann, v(c.Intn(vars)), v(c.Intn(vars))), args)
}

func (c *chosen) fact() api.Clause {
	return rule(c.atom(terms(ann, a), append(constants(), txt(""), num(2))))
}

// rule: a valid clause with one to so many atoms, sometimes one of them doubled, and sometimes a test or two.
func (c *chosen) rule(most, vars int) api.Clause {
	var out api.Clause
	for range 1 + c.Intn(most) {
		out.Body = append(out.Body, c.bodyAtom(vars))
	}
	if len(out.Body) < api.MaxBody && c.Intn(6) == 0 {
		out.Body = append(out.Body, one(c, out.Body...))
	}
	free := append(constants(), slices.Repeat(varsOf(out.Body), 6)...)
	out.Head = c.atom(terms(ann, a), free)
	for range one(c, 0, 0, 0, 0, 1, 2) {
		out.Tests = append(out.Tests, test(one(c, api.OpNe, api.OpNe, api.OpLe, api.OpLe, api.OpLt, api.OpEq), one(c, free...), one(c, free...)))
	}
	return clause.Normal(out)
}

func varsOf(l []api.Atom) []api.Term {
	var out []api.Term
	for _, x := range l {
		for _, t := range columns(x) {
			if variable(t) && !slices.Contains(out, t) {
				out = append(out, t)
			}
		}
	}
	return out
}

// pool: different clauses, of which a script adds and removes.
func (c *chosen) pool(facts, rules int) []api.Clause {
	var cs []api.Clause
	for range facts {
		cs = append(cs, c.fact())
	}
	for range rules {
		cs = append(cs, c.rule(one(c, 1, 2, 2, 3), 3))
	}
	return c.mixed(setOf(cs))
}

// mixed: the list in another order.
func (c *chosen) mixed(cs []api.Clause) []api.Clause {
	out := slices.Clone(cs)
	c.Shuffle(len(out), func(i, k int) { out[i], out[k] = out[k], out[i] })
	return out
}

// query: an atom with any numbers of variables, sometimes one that is valid nowhere.
func (c *chosen) query() api.Atom {
	vars := terms(v(0), v(1), v(4), v(80), v(greatestInt))
	if c.Intn(8) == 0 {
		return one(c, oddAtoms()...)
	}
	return c.atom(append(terms(ann, a), vars[:3]...), append(constants(), slices.Repeat(vars, 2)...))
}

// wantLooks: Has and Answers, beside the facts.
func (w *watched) wantLooks(c *chosen) {
	w.t.Helper()
	x := c.query()
	if got, want := w.k.Answers(x), plainAnswers(w.facts, x); !same(got, want) {
		w.t.Errorf("P17.5: of %q Answers(%v) is %q, want %q", told(w.clauses), x, toldAtoms(got), toldAtoms(want))
	}
	f := c.fact().Head
	w.wantHas(f, has(w.facts, f))
	w.wantHas(x, has(w.facts, x))
}

// start: half of the time with most of the pool, which comes without a look between.
func (w *watched) start(c *chosen, pool []api.Clause) {
	w.t.Helper()
	if c.Intn(2) == 0 {
		return
	}
	most := pool[:len(pool)*4/5]
	w.k, w.clauses = keptOf(w.t, most), setOf(most)
	w.facts = w.k.Facts()
	w.look(api.Change{})
}

// step: a call by chance: mostly a clause of the pool comes or goes; sometimes one that is kept, or isn't, or is valid nowhere is tried. More come than go, so that most of the pool is kept before long.
func (w *watched) step(c *chosen, pool []api.Clause) api.Change {
	w.t.Helper()
	x, bad := one(c, pool...), one(c, refusals()...)
	switch n := c.Intn(20); {
	case n == 0:
		w.refuseAdd(bad.c, bad.err)
	case n == 1:
		w.refuseRemove(bad.c, bad.err)
	case n < 11 && hasClause(w.clauses, x):
		if change := w.addClause(x); !noChange(change) {
			w.t.Errorf("P17.2: %v came with what is kept", change)
		}
	case n < 11:
		return w.addClause(x)
	case hasClause(w.clauses, x):
		return w.removeClause(x)
	case n < 13:
		w.refuseRemove(x, api.ErrNotKept)
	default:
		return w.addClause(x)
	}
	return api.Change{}
}

// TestScripts: of small pools, so that each clause comes and goes often.
func TestScripts(t *testing.T) {
	came, went, deep, stayed := 0, 0, 0, 0
	for seed := range int64(500) {
		c := newChosen(seed)
		pool := c.pool(3+c.Intn(7), 4+c.Intn(14))
		w := watch(t)
		w.start(c, pool)
		for range 60 {
			before := len(w.clauses)
			change := w.step(c, pool)
			came += len(change.Came)
			went += len(change.Gone)
			deep += count(len(change.Gone) > 4)
			stayed += count(len(w.clauses) < before && len(change.Gone) == 0)
			w.wantLooks(c)
		}
		if want := plainModel(w.clauses); !same(w.facts, want) {
			t.Errorf("P17.6: of %q the facts are %q, want %q", told(w.clauses), toldAtoms(w.facts), toldAtoms(want))
		}
	}
	if came < 6000 || went < 5000 || deep < 150 || stayed < 3000 {
		t.Errorf("too much alike: %d came, %d went, %d times many, %d times none", came, went, deep, stayed)
	}
}

// TestScriptsOfLongBodies: of clauses with up to eight atoms.
func TestScriptsOfLongBodies(t *testing.T) {
	went := 0
	for seed := range int64(150) {
		c := newChosen(seed)
		pool := slices.Concat(c.pool(14, 3), setOf([]api.Clause{c.rule(8, 3), c.rule(8, 2), c.rule(6, 3), c.rule(5, 4)}))
		w := watch(t)
		w.start(c, pool)
		for range 40 {
			went += len(w.step(c, pool).Gone)
		}
	}
	if went < 1000 {
		t.Errorf("too much alike: %d went", went)
	}
}

// graphRules: ways to say what can be reached, and who reaches it.
const graphRules = "path(X, Y) :- edge(X, Y). path(X, Y) :- edge(X, Z), path(Z, Y). path(X, Y) :- path(X, Z), path(Z, Y). loop(X) :- path(X, X). edge(Y, X) :- both, edge(X, Y). both. ann says path(X, Y) :- path(X, Y), loop(X). path(X, Y) :- W says path(Y, X)."

// TestScriptsOfGraphs: edges that come and go under recursive rules, which come and go as well: many circles.
func TestScriptsOfGraphs(t *testing.T) {
	went := 0
	for seed := range int64(60) {
		c := newChosen(seed)
		rules := program(t, graphRules)
		pool := slices.Concat(rules, rules)
		for range 14 {
			pool = append(pool, rule(atom("edge", num(c.Intn(5)), num(c.Intn(5)))))
		}
		w := watch(t)
		w.start(c, pool)
		for range 50 {
			went += len(w.step(c, pool).Gone)
		}
	}
	if went < 4000 {
		t.Errorf("too much alike: %d went", went)
	}
}
