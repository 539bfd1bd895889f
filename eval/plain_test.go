package eval_test

import (
	"cmp"
	"math/rand"
	"slices"
	"strings"

	"hearsay/api"
	"hearsay/clause"
)

// What follows is the least model as DOC.md's words say it: round by round, each rule tried with all values for all its variables. It asks nothing of the layers below, and knows of no joins, leads and workers.

func variable(t api.Term) bool { return t == v(t.N) && t.N >= 0 }

func compareTerms(x, y api.Term) int {
	return cmp.Or(cmp.Compare(x.Kind, y.Kind), cmp.Compare(x.N, y.N), strings.Compare(x.S, y.S))
}

func compareAtoms(x, y api.Atom) int {
	return cmp.Or(strings.Compare(x.Name, y.Name), cmp.Compare(len(x.Args), len(y.Args)), compareTerms(x.By, y.By), slices.CompareFunc(x.Args, y.Args, compareTerms))
}

func compareTests(x, y api.Test) int {
	return cmp.Or(cmp.Compare(x.Op, y.Op), compareTerms(x.L, y.L), compareTerms(x.R, y.R))
}

func compareClauses(x, y api.Clause) int {
	return cmp.Or(compareAtoms(x.Head, y.Head), cmp.Compare(len(x.Body), len(y.Body)), slices.CompareFunc(x.Body, y.Body, compareAtoms), cmp.Compare(len(x.Tests), len(y.Tests)), slices.CompareFunc(x.Tests, y.Tests, compareTests))
}

// inOrder: a copy of the list, sorted, none twice.
func inOrder[T any](l []T, compare func(x, y T) int) []T {
	out := slices.Clone(l)
	slices.SortFunc(out, compare)
	return slices.CompactFunc(out, func(x, y T) bool { return compare(x, y) == 0 })
}

// columns: the qualifier, then the arguments.
func columns(x api.Atom) []api.Term { return append([]api.Term{x.By}, x.Args...) }

// standing: all terms of a clause.
func standing(c api.Clause) []api.Term {
	l := columns(c.Head)
	for _, x := range c.Body {
		l = append(l, columns(x)...)
	}
	for _, x := range c.Tests {
		l = append(l, x.L, x.R)
	}
	return l
}

// variables: the numbers of the clause's variables, each once, rising.
func variables(c api.Clause) []int {
	var out []int
	for _, t := range standing(c) {
		if variable(t) {
			out = append(out, t.N)
		}
	}
	return inOrder(out, cmp.Compare)
}

// constants: those of valid clauses, in order.
func constants(cs []api.Clause) []api.Term {
	var out []api.Term
	for _, c := range cs {
		out = append(out, standing(c)...)
	}
	out = slices.DeleteFunc(out, func(t api.Term) bool { return t == none || variable(t) })
	return inOrder(out, compareTerms)
}

func value(vals []api.Term, t api.Term) api.Term {
	if variable(t) {
		return vals[t.N]
	}
	return t
}

func become(vals []api.Term, x api.Atom) api.Atom {
	l := columns(x)
	for i := range l {
		l[i] = value(vals, l[i])
	}
	return api.Atom{By: l[0], Name: x.Name, Args: l[1:]}
}

func holds(vals []api.Term, t api.Test) bool {
	d := compareTerms(value(vals, t.L), value(vals, t.R))
	return t.Op == api.OpEq && d == 0 || t.Op == api.OpNe && d != 0 || t.Op == api.OpLt && d < 0 || t.Op == api.OpLe && d <= 0
}

// allHold: whether all tests of the clause do, with these values.
func allHold(vals []api.Term, c api.Clause) bool {
	return !slices.ContainsFunc(c.Tests, func(t api.Test) bool { return !holds(vals, t) })
}

// key: a fact that can be a map's key.
type key struct {
	by   api.Term
	name string
	n    int
	args [8]api.Term
}

func keyOf(x api.Atom) key {
	k := key{by: x.By, name: x.Name, n: len(x.Args)}
	copy(k.args[:], x.Args)
	return k
}

// rounds: facts with the rounds that found them.
type rounds map[key]int

func roundsOf(m api.Model) rounds {
	known := rounds{}
	for _, k := range m.Facts {
		known[keyOf(k.Fact)] = k.Round
	}
	return known
}

// has: whether all atoms of the body are known, with these values.
func (known rounds) has(vals []api.Term, body []api.Atom) bool {
	return !slices.ContainsFunc(body, func(x api.Atom) bool { return known[keyOf(become(vals, x))] == 0 })
}

// eachValues: all lists of n of these terms, in order if these are.
func eachValues(of []api.Term, n int) [][]api.Term {
	lists := [][]api.Term{nil}
	for range n {
		var more [][]api.Term
		for _, l := range lists {
			for _, t := range of {
				more = append(more, append(slices.Clone(l), t))
			}
		}
		lists = more
	}
	return lists
}

// plainModel: of valid clauses. Rules and values are gone through in order, so what finds a fact first in its round is its first derivation.
func plainModel(cs []api.Clause) api.Model {
	m := api.Model{Rules: inOrder(cs, compareClauses)}
	known, values := rounds{}, map[int][][]api.Term{}
	for found := true; found; {
		m.Rounds++
		var came []api.Known
		for place, c := range m.Rules {
			n := len(variables(c))
			if values[n] == nil {
				values[n] = eachValues(constants(cs), n)
			}
			for _, vals := range values[n] {
				if known.has(vals, c.Body) && allHold(vals, c) && known[keyOf(become(vals, c.Head))] == 0 {
					came = append(came, api.Known{Fact: become(vals, c.Head), Round: m.Rounds, Rule: place, Vals: vals})
				}
			}
		}
		found = len(came) > 0
		for _, k := range came {
			if known[keyOf(k.Fact)] == 0 {
				known[keyOf(k.Fact)] = k.Round
				m.Facts = append(m.Facts, k)
			}
		}
	}
	slices.SortFunc(m.Facts, func(x, y api.Known) int { return compareAtoms(x.Fact, y.Fact) })
	return m
}

// plainMatch: whether q can become f.
func plainMatch(q, f api.Atom) bool {
	if q.Name != f.Name || len(q.Args) != len(f.Args) || variable(q.By) && f.By.Kind == api.KindNone {
		return false
	}
	first := map[int]api.Term{}
	to := columns(f)
	for i, t := range columns(q) {
		if variable(t) {
			if _, met := first[t.N]; !met {
				first[t.N] = to[i]
			}
			t = first[t.N]
		}
		if t != to[i] {
			return false
		}
	}
	return true
}

func plainAnswers(m api.Model, q api.Atom) []api.Atom {
	var out []api.Atom
	for _, k := range m.Facts {
		if plainMatch(q, k.Fact) {
			out = append(out, k.Fact)
		}
	}
	return inOrder(out, compareAtoms)
}

// chosen: programs by chance, the same at every run. Few names and terms, so that rules feed each other and facts come in several ways.
type chosen struct{ *rand.Rand }

func newChosen(seed int64) *chosen { return &chosen{rand.New(rand.NewSource(seed))} }

func one[T any](c *chosen, of ...T) T { return of[c.Intn(len(of))] }

func (c *chosen) atom(bys, args []api.Term) api.Atom {
	f := by(one(c, bys...), atom(one(c, "p", "p", "q")))
	for range one(c, 0, 1, 2, 2, 2, 2, 2, 2) {
		f.Args = append(f.Args, one(c, args...))
	}
	return f
}

func (c *chosen) fact() api.Clause {
	return rule(c.atom(append(nTimes(8, none), ann, a), terms(a, ann, num(1), txt("1"))))
}

// rule: a valid one with at most three variables.
func (c *chosen) rule() api.Clause {
	vars := terms(v(0), v(1), v(2))
	var out api.Clause
	for range one(c, 0, 1, 1, 2, 2, 2, 3) {
		out.Body = append(out.Body, c.atom(append(nTimes(12, none), ann, v(0), v(1)), append(terms(a, num(1)), slices.Repeat(vars, 5)...)))
	}
	free := terms(a, num(1), txt("1"))
	for _, n := range variables(out) {
		free = append(free, nTimes(4, v(n))...)
	}
	out.Head = c.atom(append(nTimes(8, none), ann), free)
	for range one(c, 0, 0, 0, 0, 1, 2) {
		out.Tests = append(out.Tests, test(1+c.Intn(4), one(c, free...), one(c, free...)))
	}
	return clause.Normal(out)
}

// chain: rules that hand a fact on from predicate to predicate, so that there are rounds.
func (c *chosen) chain() []api.Clause {
	cs := []api.Clause{rule(atom("c0", one(c, a, num(1), ann)))}
	for n := range 1 + c.Intn(4) {
		x, y := atom(one(c, "c0", "c1", "c2", "p"), v(0)), atom(one(c, "c1", "c2", "c3", "p"), v(0))
		cs = append(cs, rule(y, x), rule(q(v(0), num(n)), x, y))
	}
	return cs
}

// program: facts, rules and chains in any order, some twice.
func (c *chosen) program() []api.Clause {
	var cs []api.Clause
	for range c.Intn(12) {
		cs = append(cs, c.fact())
	}
	for range 1 + c.Intn(9) {
		cs = append(cs, c.rule())
	}
	if c.Intn(2) == 0 {
		cs = append(cs, c.chain()...)
	}
	for range c.Intn(3) {
		cs = append(cs, one(c, cs...))
	}
	return c.mixed(cs)
}

// mixed: the clauses in another order.
func (c *chosen) mixed(cs []api.Clause) []api.Clause {
	out := slices.Clone(cs)
	c.Shuffle(len(out), func(i, k int) { out[i], out[k] = out[k], out[i] })
	return out
}
