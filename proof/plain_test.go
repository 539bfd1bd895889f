package proof_test

import (
	"cmp"
	"math/rand"
	"slices"
	"strings"

	"hearsay/api"
	"hearsay/clause"
)

// What follows is what the chapter's words say, by searching through lists. It asks nothing of the layers below.

func variable(t api.Term) bool { return t == v(t.N) && t.N >= 0 }

func compareTerms(x, y api.Term) int {
	return cmp.Or(cmp.Compare(x.Kind, y.Kind), cmp.Compare(x.N, y.N), strings.Compare(x.S, y.S))
}

func compareAtoms(x, y api.Atom) int {
	return cmp.Or(strings.Compare(x.Name, y.Name), cmp.Compare(len(x.Args), len(y.Args)), compareTerms(x.By, y.By), slices.CompareFunc(x.Args, y.Args, compareTerms))
}

func compareTests(x, y api.Test) int {
	return cmp.Or(cmp.Compare(x.Op, y.Op), compareTerms(x.L, y.L), compareTerms(x.R, y.R))
}

func compareClauses(x, y api.Clause) int {
	return cmp.Or(compareAtoms(x.Head, y.Head), cmp.Compare(len(x.Body), len(y.Body)), slices.CompareFunc(x.Body, y.Body, compareAtoms), cmp.Compare(len(x.Tests), len(y.Tests)), slices.CompareFunc(x.Tests, y.Tests, compareTests))
}

// inOrder: a copy of the list, sorted, none twice.
func inOrder[T any](l []T, compare func(x, y T) int) []T {
	out := slices.Clone(l)
	slices.SortFunc(out, compare)
	return slices.CompactFunc(out, func(x, y T) bool { return compare(x, y) == 0 })
}

func value(vals []api.Term, t api.Term) api.Term {
	if variable(t) && t.N < len(vals) {
		return vals[t.N]
	}
	return t
}

func become(vals []api.Term, x api.Atom) api.Atom {
	out := api.Atom{By: value(vals, x.By), Name: x.Name}
	for _, t := range x.Args {
		out.Args = append(out.Args, value(vals, t))
	}
	return out
}

func becomeAll(vals []api.Term, l []api.Atom) []api.Atom {
	var out []api.Atom
	for _, x := range l {
		out = append(out, become(vals, x))
	}
	return out
}

func holds(vals []api.Term, t api.Test) bool {
	d := compareTerms(value(vals, t.L), value(vals, t.R))
	return t.Op == api.OpEq && d == 0 || t.Op == api.OpNe && d != 0 || t.Op == api.OpLt && d < 0 || t.Op == api.OpLe && d <= 0
}

// variables: how many a clause has.
func variables(c api.Clause) int {
	var l []api.Term
	for _, x := range append(atoms(c.Head), c.Body...) {
		l = append(append(l, x.By), x.Args...)
	}
	for _, x := range c.Tests {
		l = append(l, x.L, x.R)
	}
	l = slices.DeleteFunc(l, func(t api.Term) bool { return !variable(t) })
	return len(inOrder(l, compareTerms))
}

func place(n, many int) bool { return 0 <= n && n < many }

// entryOf: the first one of the atom; nil, if there is none.
func entryOf(m api.Model, f api.Atom) *api.Known {
	for i := range m.Facts {
		if sameAtom(m.Facts[i].Fact, f) {
			return &m.Facts[i]
		}
	}
	return nil
}

// holdsTogether: of an entry whose Rule is a place too.
func holdsTogether(m api.Model, k *api.Known) bool {
	if !place(k.Rule, len(m.Rules)) || !sameAtom(become(k.Vals, m.Rules[k.Rule].Head), k.Fact) {
		return false
	}
	return !slices.ContainsFunc(becomeAll(k.Vals, m.Rules[k.Rule].Body), func(x api.Atom) bool {
		on := entryOf(m, x)
		return on == nil || on.Round >= k.Round
	})
}

// laying: steps that are put down, with their facts and the rules that they name.
type laying struct {
	of    api.Model
	facts []api.Atom
	steps []api.Step
	named []api.Clause
}

func (l *laying) number(f api.Atom) int {
	return slices.IndexFunc(l.facts, func(x api.Atom) bool { return sameAtom(x, f) })
}

// put: whether all entries that are met hold together.
func (l *laying) put(f api.Atom) bool {
	if l.number(f) >= 0 {
		return true
	}
	k := entryOf(l.of, f)
	if !holdsTogether(l.of, k) {
		return false
	}
	var uses []int
	for _, x := range becomeAll(k.Vals, l.of.Rules[k.Rule].Body) {
		if !l.put(x) {
			return false
		}
		uses = append(uses, l.number(x))
	}
	l.facts = append(l.facts, f)
	l.steps = append(l.steps, api.Step{Vals: k.Vals, Uses: uses})
	l.named = append(l.named, l.of.Rules[k.Rule])
	return true
}

// ruled: the derivation of steps that name these rules, step by step.
func ruled(steps []api.Step, named []api.Clause) api.Proof {
	out := api.Proof{Rules: inOrder(named, compareClauses), Steps: slices.Clone(steps)}
	for i, c := range named {
		out.Steps[i].Rule = slices.IndexFunc(out.Rules, func(x api.Clause) bool { return sameClause(x, c) })
	}
	return out
}

func plainProve(m api.Model, f api.Atom) (api.Proof, api.Errno) {
	if entryOf(m, f) == nil {
		return api.Proof{}, api.ErrNoFact
	}
	l := &laying{of: m}
	if !l.put(f) {
		return api.Proof{}, api.ErrModel
	}
	return ruled(l.steps, l.named), api.OK
}

func plainFacts(of api.Proof) []api.Atom {
	var out []api.Atom
	for _, s := range of.Steps {
		f := api.Atom{}
		if place(s.Rule, len(of.Rules)) {
			f = become(s.Vals, of.Rules[s.Rule].Head)
		}
		out = append(out, f)
	}
	return out
}

func plainLaid(of api.Proof) bool {
	for i, s := range of.Steps {
		if !place(s.Rule, len(of.Rules)) || slices.ContainsFunc(s.Uses, func(u int) bool { return !place(u, i) }) {
			return false
		}
	}
	return len(of.Steps) > 0
}

func plainTrim(of api.Proof) api.Proof {
	if !plainLaid(of) {
		return of
	}
	facts := plainFacts(of)
	stands := func(n int) int {
		return slices.IndexFunc(facts, func(x api.Atom) bool { return sameAtom(x, facts[n]) })
	}
	kept := []int{stands(len(facts) - 1)}
	for i := 0; i < len(kept); i++ {
		for _, u := range of.Steps[kept[i]].Uses {
			if !slices.Contains(kept, stands(u)) {
				kept = append(kept, stands(u))
			}
		}
	}
	slices.Sort(kept)
	var steps []api.Step
	var named []api.Clause
	for _, n := range kept {
		s := of.Steps[n]
		var to []int
		for _, u := range s.Uses {
			to = append(to, slices.Index(kept, stands(u)))
		}
		steps = append(steps, api.Step{Vals: s.Vals, Uses: to})
		named = append(named, of.Rules[s.Rule])
	}
	return ruled(steps, named)
}

// plainDepth: the depth of each step is worked out as often as it is asked for.
func plainDepth(of api.Proof) int {
	var depth func(n int) int
	depth = func(n int) int {
		most := 0
		for _, u := range of.Steps[n].Uses {
			if place(u, n) {
				most = max(most, depth(u))
			}
		}
		return most + 1
	}
	most := 0
	for n := range of.Steps {
		most = max(most, depth(n))
	}
	return most
}

// chosen: programs, models and derivations by chance, the same at every run. Few names and terms, so that much comes twice.
type chosen struct{ *rand.Rand }

func newChosen(seed int64) *chosen { return &chosen{rand.New(rand.NewSource(seed))} }

func one[T any](c *chosen, of ...T) T { return of[c.Intn(len(of))] }

// once: true one time in n.
func (c *chosen) once(n int) bool { return c.Intn(n) == 0 }

func (c *chosen) atom(bys, args []api.Term) api.Atom {
	f := by(one(c, bys...), atom(one(c, "p", "p", "q")))
	for range one(c, 0, 1, 2, 2, 2, 2, 2, 2) {
		f.Args = append(f.Args, one(c, args...))
	}
	return f
}

// program: facts and rules in any order.
func (c *chosen) program() []api.Clause {
	var cs []api.Clause
	for range 1 + c.Intn(10) {
		cs = append(cs, rule(c.atom(append(nTimes(8, none), ann, a), terms(a, ann, num(1), txt("1")))))
	}
	for range 1 + c.Intn(9) {
		cs = append(cs, c.rule())
	}
	cs = append(cs, rule(atom("c0", one(c, a, num(1)))))
	for n := range c.Intn(5) {
		x, y := atom(one(c, "c0", "c1", "c2", "p"), v(0)), atom(one(c, "c1", "c2", "c3", "p"), v(0))
		cs = append(cs, rule(y, x), rule(q(v(0), num(n)), x, y))
	}
	c.Shuffle(len(cs), func(i, k int) { cs[i], cs[k] = cs[k], cs[i] })
	return cs
}

// rule: a valid one with at most three variables.
func (c *chosen) rule() api.Clause {
	var out api.Clause
	free := terms(a, num(1), txt("1"))
	for range one(c, 0, 1, 1, 2, 2, 2, 3) {
		x := c.atom(append(nTimes(12, none), ann, v(0), v(1)), append(terms(a, num(1)), slices.Repeat(terms(v(0), v(1), v(2)), 5)...))
		out.Body = append(out.Body, x)
		for _, t := range append(terms(x.By), x.Args...) {
			if variable(t) {
				free = append(free, nTimes(3, t)...)
			}
		}
	}
	out.Head = c.atom(append(nTimes(8, none), ann), free)
	for range one(c, 0, 0, 0, 0, 1, 2) {
		out.Tests = append(out.Tests, test(1+c.Intn(4), one(c, free...), one(c, free...)))
	}
	return clause.Normal(out)
}

// anyTerms: those that are valid nowhere among them.
func anyTerms() []api.Term {
	return terms(a, b, num(1), txt("1"), a, b, v(0), v(1), none, odd, v(-1))
}

func (c *chosen) anyAtom() api.Atom {
	f := api.Atom{By: one(c, append(nTimes(9, none), anyTerms()...)...), Name: one(c, "p", "p", "p", "q", "", "P")}
	for range c.Intn(3) {
		f.Args = append(f.Args, one(c, anyTerms()...))
	}
	return f
}

// general: the atom with a variable in the place of some of the terms that the variable has as its value.
func (c *chosen) general(x api.Atom, vals []api.Term) api.Atom {
	hidden := func(t api.Term) api.Term {
		for n, x := range vals {
			if x == t && !c.once(4) {
				return v(n)
			}
		}
		return t
	}
	out := api.Atom{By: hidden(x.By), Name: x.Name}
	for _, t := range x.Args {
		out.Args = append(out.Args, hidden(t))
	}
	return out
}

// model: one made by hand, in any order, with some entries told twice. Most entries hold together.
func (c *chosen) model() api.Model {
	var m api.Model
	for range 1 + c.Intn(14) {
		m.Facts = append(m.Facts, c.entry(&m))
	}
	for range c.Intn(3) {
		m.Facts = append(m.Facts, one(c, m.Facts...))
	}
	if c.once(2) {
		c.Shuffle(len(m.Facts), func(i, k int) { m.Facts[i], m.Facts[k] = m.Facts[k], m.Facts[i] })
	}
	m.Rounds = c.Intn(3)
	return m
}

// entry: one of the fact that a new rule's head becomes, from facts of the model with smaller rounds.
func (c *chosen) entry(m *api.Model) api.Known {
	k := api.Known{Rule: len(m.Rules), Round: one(c, 0, -3, 1)}
	for range c.Intn(4) {
		k.Vals = append(k.Vals, one(c, anyTerms()...))
	}
	var body []api.Atom
	for range min(len(m.Facts), c.Intn(4)) {
		on := entryOf(*m, one(c, m.Facts...).Fact)
		body = append(body, c.general(on.Fact, k.Vals))
		k.Round = max(k.Round, on.Round+1)
	}
	head := c.general(c.anyAtom(), k.Vals)
	if c.once(4) && len(m.Rules) > 0 { // a rule that is there already, as another one or as itself
		k.Rule = c.Intn(len(m.Rules))
		head, body = m.Rules[k.Rule].Head, m.Rules[k.Rule].Body
	}
	k.Fact = become(k.Vals, head)
	if k.Rule == len(m.Rules) || c.once(2) {
		k.Rule = len(m.Rules)
		m.Rules = append(m.Rules, rule(head, body...))
	}
	switch c.Intn(60) {
	case 0:
		k.Rule = one(c, -1, k.Rule+1, leastInt, greatestInt)
	case 1:
		k.Round -= c.Intn(3)
	case 2:
		k.Fact = c.anyAtom()
	case 3:
		k.Vals = append(k.Vals, a)
	case 4:
		k.Vals = k.Vals[:len(k.Vals)/2]
	}
	return k
}

// derivation: one made by hand; one in five isn't laid.
func (c *chosen) derivation() api.Proof {
	var out api.Proof
	for range 1 + c.Intn(5) {
		out.Rules = append(out.Rules, rule(c.anyAtom(), nTimes(c.Intn(3), p(v(0)))...))
	}
	if c.once(3) {
		out.Rules = append(out.Rules, out.Rules[0])
	}
	for n := range 1 + c.Intn(12) {
		s := api.Step{Rule: c.Intn(len(out.Rules))}
		for range c.Intn(3) {
			s.Vals = append(s.Vals, one(c, a, b, v(1), none))
		}
		for range min(n, one(c, 0, 1, 1, 2, 3)) {
			s.Uses = append(s.Uses, max(c.Intn(n), c.Intn(n)))
		}
		out.Steps = append(out.Steps, s)
	}
	if c.once(5) {
		c.spoil(&out)
	}
	return out
}

// spoil: a step gets a rule that isn't there, or uses one that isn't earlier.
func (c *chosen) spoil(of *api.Proof) {
	n := c.Intn(len(of.Steps))
	if c.once(2) {
		of.Steps[n].Rule = one(c, -1, len(of.Rules), leastInt, greatestInt)
		return
	}
	of.Steps[n].Uses = append(of.Steps[n].Uses, one(c, -1, n, n+1, leastInt, greatestInt))
}
