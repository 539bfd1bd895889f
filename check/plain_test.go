package check_test

import (
	"cmp"
	"math/rand"
	"regexp"
	"slices"
	"strings"

	"hearsay/api"
	"hearsay/clause"
)

// What follows is what the chapters' words say, by searching through lists. It asks nothing of the layers below.

func constant(t api.Term) bool {
	return t == num(t.N) || t == txt(t.S) && len(t.S) <= 64
}

func variable(t api.Term) bool { return t == v(t.N) && t.N >= 0 }

func standsFor(t api.Term) bool { return constant(t) || variable(t) }

var names = regexp.MustCompile(`\A[a-z][a-zA-Z0-9_]{0,31}\z`)

func validAtom(x api.Atom) bool {
	name := names.MatchString(x.Name) && x.Name != "says"
	who := x.By == none || variable(x.By) || constant(x.By) && x.By.S != ""
	return name && who && len(x.Args) <= 8 && !slices.ContainsFunc(x.Args, func(t api.Term) bool { return !standsFor(t) })
}

func isFact(x api.Atom) bool {
	return validAtom(x) && !slices.ContainsFunc(append(terms(x.By), x.Args...), variable)
}

// variables: in the order in which they first stand.
func variables(c api.Clause) []api.Term {
	var out []api.Term
	add := func(l ...api.Term) {
		for _, t := range l {
			if variable(t) && !slices.Contains(out, t) {
				out = append(out, t)
			}
		}
	}
	for _, x := range append(atoms(c.Head), c.Body...) {
		add(x.By)
		add(x.Args...)
	}
	for _, x := range c.Tests {
		add(x.L, x.R)
	}
	return out
}

func valid(c api.Clause) bool {
	if len(c.Body) > 8 || len(c.Tests) > 8 || variable(c.Head.By) {
		return false
	}
	for _, x := range append(atoms(c.Head), c.Body...) {
		if !validAtom(x) {
			return false
		}
	}
	for _, x := range c.Tests {
		if x.Op < 1 || x.Op > 4 || !standsFor(x.L) || !standsFor(x.R) {
			return false
		}
	}
	bound := variables(api.Clause{Body: c.Body})
	for n, t := range variables(c) {
		if t.N != n || !slices.Contains(bound, t) {
			return false
		}
	}
	return true
}

func compareTerms(x, y api.Term) int {
	return cmp.Or(cmp.Compare(x.Kind, y.Kind), cmp.Compare(x.N, y.N), strings.Compare(x.S, y.S))
}

func value(vals []api.Term, t api.Term) api.Term {
	if variable(t) {
		return vals[t.N]
	}
	return t
}

func become(vals []api.Term, x api.Atom) api.Atom {
	out := api.Atom{By: value(vals, x.By), Name: x.Name}
	for _, t := range x.Args {
		out.Args = append(out.Args, value(vals, t))
	}
	return out
}

func holds(vals []api.Term, t api.Test) bool {
	d := compareTerms(value(vals, t.L), value(vals, t.R))
	return t.Op == api.OpEq && d == 0 || t.Op == api.OpNe && d != 0 || t.Op == api.OpLt && d < 0 || t.Op == api.OpLe && d <= 0
}

func place(n, many int) bool { return 0 <= n && n < many }

// plainStep: a step's error, and its fact.
func plainStep(rs []api.Clause, s api.Step, ahead []api.Atom) (api.Atom, api.Errno) {
	if !place(s.Rule, len(rs)) || !valid(rs[s.Rule]) {
		return api.Atom{}, api.ErrRule
	}
	c := rs[s.Rule]
	if len(s.Vals) != len(variables(c)) || slices.ContainsFunc(s.Vals, func(t api.Term) bool { return !constant(t) }) {
		return api.Atom{}, api.ErrVals
	}
	if len(s.Uses) != len(c.Body) || slices.ContainsFunc(s.Uses, func(u int) bool { return !place(u, len(ahead)) }) {
		return api.Atom{}, api.ErrUses
	}
	for _, x := range c.Tests {
		if !holds(s.Vals, x) {
			return api.Atom{}, api.ErrFails
		}
	}
	for i, x := range c.Body {
		if !sameAtom(become(s.Vals, x), ahead[s.Uses[i]]) {
			return api.Atom{}, api.ErrMismatch
		}
	}
	return become(s.Vals, c.Head), api.OK
}

func plainConclude(of api.Proof) ([]api.Atom, api.Errno) {
	if len(of.Steps) < 1 || len(of.Steps) > 5000 {
		return nil, api.ErrSteps
	}
	var facts []api.Atom
	for _, s := range of.Steps {
		f, err := plainStep(of.Rules, s, facts)
		if err != api.OK {
			return nil, err
		}
		facts = append(facts, f)
	}
	return facts, api.OK
}

func plainCheck(cs []api.Clause, of api.Proof, f api.Atom) api.Errno {
	facts, err := plainConclude(of)
	if err != api.OK {
		return err
	}
	for _, s := range of.Steps {
		if !slices.ContainsFunc(cs, func(x api.Clause) bool { return sameClause(x, of.Rules[s.Rule]) }) {
			return api.ErrForeign
		}
	}
	if !sameAtom(facts[len(facts)-1], f) {
		return api.ErrGoal
	}
	return api.OK
}

// named: the rules that steps name, of a derivation whose steps hold.
func named(of api.Proof) []api.Clause {
	var out []api.Clause
	for _, s := range of.Steps {
		if c := of.Rules[s.Rule]; !slices.ContainsFunc(out, func(x api.Clause) bool { return sameClause(x, c) }) {
			out = append(out, c)
		}
	}
	return out
}

// chosen: programs and derivations by chance, the same at every run. Few names and terms, so that much fits.
type chosen struct{ *rand.Rand }

func newChosen(seed int64) *chosen { return &chosen{rand.New(rand.NewSource(seed))} }

func one[T any](c *chosen, of ...T) T { return of[c.Intn(len(of))] }

// once: true one time in n.
func (c *chosen) once(n int) bool { return c.Intn(n) == 0 }

func constants() []api.Term { return terms(a, ann, num(1), txt("1")) }

func (c *chosen) atom(bys, args []api.Term) api.Atom {
	f := by(one(c, bys...), atom(one(c, "p", "p", "q")))
	for range one(c, 0, 1, 1, 2, 2, 2, 2) {
		f.Args = append(f.Args, one(c, args...))
	}
	return f
}

// program: facts and rules in any order, all valid.
func (c *chosen) program() []api.Clause {
	var cs []api.Clause
	for range 2 + c.Intn(9) {
		cs = append(cs, rule(c.atom(append(nTimes(6, none), ann, a), constants())))
	}
	for range 2 + c.Intn(8) {
		cs = append(cs, c.rule())
	}
	for n := range c.Intn(5) { // chains, so that there are derivations of many steps
		x, y := atom(one(c, "c1", "c2", "p"), v(0)), atom(one(c, "c1", "c2", "c3", "p"), v(0))
		cs = append(cs, rule(y, x), rule(q(v(0), num(n)), x, y))
	}
	c.Shuffle(len(cs), func(i, k int) { cs[i], cs[k] = cs[k], cs[i] })
	return cs
}

// rule: a valid one with at most three variables.
func (c *chosen) rule() api.Clause {
	var out api.Clause
	free := terms(a, num(1), txt("1"))
	for range one(c, 0, 1, 1, 2, 2, 2, 3) {
		x := c.atom(append(nTimes(8, none), ann, v(0), v(1)), append(terms(a, num(1)), slices.Repeat(terms(v(0), v(1), v(2)), 4)...))
		out.Body = append(out.Body, x)
		for _, t := range append(terms(x.By), x.Args...) {
			if variable(t) {
				free = append(free, nTimes(3, t)...)
			}
		}
	}
	out.Head = c.atom(append(nTimes(8, none), ann), free)
	for range one(c, 0, 0, 0, 1, 2) {
		out.Tests = append(out.Tests, test(1+c.Intn(4), one(c, free...), one(c, free...)))
	}
	return clause.Normal(out)
}

// step: one by any of the rules, which follows from the facts ahead if chance will have it.
func (c *chosen) step(rs []api.Clause, ahead []api.Atom) api.Step {
	s := api.Step{Rule: c.Intn(len(rs))}
	for range variables(rs[s.Rule]) {
		s.Vals = append(s.Vals, one(c, constants()...))
	}
	for _, x := range rs[s.Rule].Body {
		wanted := become(s.Vals, x)
		for _, n := range c.Perm(len(ahead)) {
			if sameAtom(ahead[n], wanted) {
				s.Uses = append(s.Uses, n)
				break
			}
		}
	}
	return s
}

// derivation: one of which each step follows.
func (c *chosen) derivation(rs []api.Clause) api.Proof {
	out := api.Proof{Rules: rs}
	var facts []api.Atom
	for tries := 0; tries < 60 || len(facts) == 0; tries++ {
		s := c.step(rs, facts)
		if f, err := plainStep(rs, s, facts); err == api.OK {
			out.Steps = append(out.Steps, s)
			facts = append(facts, f)
		}
	}
	return out
}

// anyTerm: a constant more often than not.
func (c *chosen) anyTerm() api.Term {
	return one(c, append(slices.Repeat(append(constants(), b), 8), noConstants()...)...)
}

func (c *chosen) anyPlace(many int) int {
	if c.once(4) {
		return one(c, append(farOff(), many)...)
	}
	return c.Intn(max(many, 1))
}

// spoil: a derivation of which each step follows is changed in one place.
func (c *chosen) spoil(of *api.Proof) {
	if len(of.Steps) == 0 || len(of.Rules) == 0 { // by what was spoilt ahead
		return
	}
	s := &of.Steps[c.Intn(len(of.Steps))]
	switch c.Intn(10) {
	case 0:
		s.Rule = c.anyPlace(len(of.Rules))
	case 1, 2:
		s.Vals = spoilList(c, s.Vals, c.anyTerm())
	case 3, 4:
		s.Uses = spoilList(c, s.Uses, c.anyPlace(len(of.Steps)))
	case 5:
		of.Steps = spoilList(c, of.Steps, one(c, of.Steps...))
	case 6:
		of.Rules = spoilList(c, of.Rules, one(c, of.Rules...))
	default:
		if place(s.Rule, len(of.Rules)) {
			c.spoilRule(&of.Rules[s.Rule])
		}
	}
}

// spoilList: one is taken out, put in, or changed.
func spoilList[T any](c *chosen, l []T, x T) []T {
	n := c.Intn(len(l) + 1)
	switch {
	case c.once(3) || len(l) == 0:
		return slices.Insert(slices.Clone(l), n, x)
	case c.once(3):
		n = c.Intn(len(l))
		return slices.Delete(slices.Clone(l), n, n+1)
	}
	l[c.Intn(len(l))] = x
	return l
}

func (c *chosen) spoilRule(of *api.Clause) {
	all := []*api.Atom{&of.Head}
	for i := range of.Body {
		all = append(all, &of.Body[i])
	}
	x := one(c, all...)
	switch c.Intn(6) {
	case 0:
		x.By = c.anyTerm()
	case 1:
		x.Name = one(c, "p", "q", "P", "", "says")
	case 2:
		x.Args = spoilList(c, x.Args, c.anyTerm())
	case 3:
		of.Body = spoilList(c, of.Body, cloneAtom(*x))
	default:
		of.Tests = spoilList(c, of.Tests, test(c.Intn(6), c.anyTerm(), c.anyTerm()))
	}
}
