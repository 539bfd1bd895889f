package plan_test

import (
	"math/rand"
	"slices"
	"strings"
	"testing"

	"hearsay/api"
	"hearsay/base"
	"hearsay/clause"
	"hearsay/plan"
)

// plain: facts with their parts, over which a clause is solved as the chapter's words say it: by trying all values for all variables. It asks nothing of the layers below, and knows of no joins.
type plain struct {
	facts []placed
}

type placed struct {
	fact api.Atom
	part int
}

func variable(t api.Term) bool { return t == v(t.N) && t.N >= 0 }

func less(yes bool) int {
	if yes {
		return -1
	}
	return 1
}

func compareTerms(x, y api.Term) int {
	switch {
	case x.Kind != y.Kind:
		return less(x.Kind < y.Kind)
	case x.N != y.N:
		return less(x.N < y.N)
	}
	return strings.Compare(x.S, y.S)
}

func compareAtoms(x, y api.Atom) int {
	switch {
	case x.Name != y.Name:
		return strings.Compare(x.Name, y.Name)
	case len(x.Args) != len(y.Args):
		return less(len(x.Args) < len(y.Args))
	case x.By != y.By:
		return compareTerms(x.By, y.By)
	}
	return slices.CompareFunc(x.Args, y.Args, compareTerms)
}

// columns: the qualifier, then the arguments.
func columns(x api.Atom) []api.Term { return append([]api.Term{x.By}, x.Args...) }

// variables: the numbers of those among the terms, each once, rising.
func variables(l []api.Term) []int {
	var out []int
	for _, t := range l {
		if variable(t) {
			out = append(out, t.N)
		}
	}
	slices.Sort(out)
	return slices.Compact(out)
}

func bodyVariables(c api.Clause, atoms ...int) []int {
	var l []api.Term
	for _, n := range atoms {
		l = append(l, columns(c.Body[n])...)
	}
	return variables(l)
}

// upTo: 0, 1, .. n - 1.
func upTo(n int) []int {
	l := make([]int, n)
	for i := range l {
		l[i] = i
	}
	return l
}

func value(vals []api.Term, t api.Term) api.Term {
	if variable(t) {
		return vals[t.N]
	}
	return t
}

func become(vals []api.Term, x api.Atom) api.Atom {
	l := columns(x)
	for i := range l {
		l[i] = value(vals, l[i])
	}
	return api.Atom{By: l[0], Name: x.Name, Args: l[1:]}
}

func holds(vals []api.Term, t api.Test) bool {
	d := compareTerms(value(vals, t.L), value(vals, t.R))
	if value(vals, t.L) == value(vals, t.R) {
		d = 0
	}
	return t.Op == api.OpEq && d == 0 || t.Op == api.OpNe && d != 0 || t.Op == api.OpLt && d < 0 || t.Op == api.OpLe && d <= 0
}

func (s *plain) part(f api.Atom) int {
	for _, x := range s.facts {
		if sameAtom(x.fact, f) {
			return x.part
		}
	}
	return 0
}

func (s *plain) add(f api.Atom) bool {
	if s.part(f) != 0 {
		return false
	}
	s.facts = append(s.facts, placed{f, 4})
	return true
}

func (s *plain) turn() {
	for i, x := range s.facts {
		s.facts[i].part = max(1, x.part/2)
	}
}

func (s *plain) all(part int) []api.Atom {
	var out []api.Atom
	for _, x := range s.facts {
		if x.part == part {
			out = append(out, x.fact)
		}
	}
	slices.SortFunc(out, compareAtoms)
	return out
}

// terms: all that stand in facts, in order.
func (s *plain) terms() []api.Term {
	var out []api.Term
	for _, x := range s.facts {
		out = append(out, columns(x.fact)...)
	}
	slices.SortFunc(out, compareTerms)
	return slices.Compact(out)
}

// allowed: whether a fact of this part may be the atom number n.
func allowed(part, n, lead int) bool {
	switch {
	case lead >= 0 && n < lead:
		return part == 1
	case lead >= 0 && n == lead:
		return part == 2
	}
	return part == 1 || part == 2
}

func (s *plain) isSolution(c api.Clause, lead int, vals []api.Term) bool {
	for _, t := range c.Tests {
		if !holds(vals, t) {
			return false
		}
	}
	for n, x := range c.Body {
		if !allowed(s.part(become(vals, x)), n, lead) {
			return false
		}
	}
	return true
}

// solve: the values are gone through in order, the last variable's fastest; so no sorting is needed. None is no value.
func (s *plain) solve(c api.Clause, lead int) [][]api.Term {
	terms := slices.DeleteFunc(s.terms(), func(t api.Term) bool { return t == none })
	tried := [][]api.Term{nil}
	for range bodyVariables(c, upTo(len(c.Body))...) {
		var more [][]api.Term
		for _, l := range tried {
			for _, t := range terms {
				more = append(more, append(slices.Clone(l), t))
			}
		}
		tried = more
	}
	return slices.DeleteFunc(tried, func(l []api.Term) bool { return !s.isSolution(c, lead, l) })
}

func (s *plain) fire(c api.Clause, lead int) []api.Atom {
	var out []api.Atom
	for _, l := range s.solve(c, lead) {
		if h := become(l, c.Head); !slices.ContainsFunc(out, func(x api.Atom) bool { return sameAtom(x, h) }) {
			out = append(out, h)
		}
	}
	slices.SortFunc(out, compareAtoms)
	return out
}

// known: the columns of the atom number n that are known behind the joins of these atoms.
func known(c api.Clause, joined []int, n int) []int {
	var out []int
	met := bodyVariables(c, joined...)
	for i, t := range columns(c.Body[n]) {
		if !variable(t) || slices.Contains(met, t.N) {
			out = append(out, i)
		}
	}
	return out
}

// most: those of the numbers of which the most is told.
func most(l []int, much func(int) int) []int {
	var out []int
	for _, n := range l {
		if !slices.ContainsFunc(l, func(m int) bool { return much(m) > much(n) }) {
			out = append(out, n)
		}
	}
	return out
}

// following: the atom that is joined behind these.
func following(c api.Clause, joined []int) int {
	left := slices.DeleteFunc(upTo(len(c.Body)), func(n int) bool { return slices.Contains(joined, n) })
	left = most(left, func(n int) int { return len(known(c, joined, n)) })
	left = most(left, func(n int) int { return -(1 + len(c.Body[n].Args) - len(known(c, joined, n))) })
	return slices.Min(left)
}

// firstJoin: behind how many of the joins of these atoms all variables of the test are met; 0: it has none.
func firstJoin(c api.Clause, joined []int, t api.Test) int {
	for n := range len(joined) + 1 {
		met := bodyVariables(c, joined[:n]...)
		if !slices.ContainsFunc(variables(vals(t.L, t.R)), func(v int) bool { return !slices.Contains(met, v) }) {
			return n
		}
	}
	return -1
}

// made: the order of the atoms first, and then all the rest by looking at that order alone.
func made(c api.Clause, lead int) api.Plan {
	var joined []int
	if lead >= 0 {
		joined = numbers(lead)
	}
	for len(joined) < len(c.Body) {
		joined = append(joined, following(c, joined))
	}
	tests := make([][]int, len(joined)+1)
	for i, t := range c.Tests {
		n := firstJoin(c, joined, t)
		tests[n] = append(tests[n], i)
	}
	out := api.Plan{Ahead: tests[0]}
	for i, n := range joined {
		out.Joins = append(out.Joins, join(n, known(c, joined[:i], n), tests[i+1]))
	}
	return out
}

// both: a base, and the plain one to which the same is done.
type both struct {
	t *testing.T
	s *base.Base
	p *plain
}

func newBoth(t *testing.T) *both { return &both{t, base.New(), &plain{}} }

func (x *both) add(l ...api.Atom) {
	x.t.Helper()
	for _, f := range l {
		came, err := x.s.Add(f)
		if came != x.p.add(f) || err != api.OK {
			x.t.Fatalf("Add(%v) is %v, %d", f, came, err)
		}
	}
}

func (x *both) turn() {
	x.s.Turn()
	x.p.turn()
}

// stays: the base is as it was.
func (x *both) stays() {
	x.t.Helper()
	for _, part := range numbers(api.PartOld, api.PartNew, api.PartNext) {
		if l, want := x.s.Facts(part), x.p.all(part); !same(l, want) {
			x.t.Errorf("P9.6: the base has %v in part %d, want %v", l, part, want)
		}
	}
}

// ask: all three calls of the clause, with every lead; behind them the base and the clause are as they were.
func (x *both) ask(c api.Clause) {
	x.t.Helper()
	before := copied(c)
	for lead := -1; lead < len(c.Body); lead++ {
		wantMake(x.t, c, lead, made(c, lead))
		wantSolve(x.t, x.s, c, lead, x.p.solve(c, lead)...)
		wantFire(x.t, x.s, c, lead, x.p.fire(c, lead)...)
	}
	if !sameClause(c, before) {
		x.t.Errorf("P9.6: the clause is %v, was %v", c, before)
	}
	x.stays()
}

func copied(c api.Clause) api.Clause {
	out := api.Clause{Head: c.Head, Tests: slices.Clone(c.Tests)}
	out.Head.Args = slices.Clone(c.Head.Args)
	for _, x := range c.Body {
		out.Body = append(out.Body, by(x.By, atom(x.Name, slices.Clone(x.Args)...)))
	}
	return out
}

// chosen: clauses and facts by chance, the same at every run. Few names and terms, so that atoms meet facts, and share variables.
type chosen struct{ *rand.Rand }

func newChosen(seed int64) *chosen { return &chosen{rand.New(rand.NewSource(seed))} }

func one[T any](c *chosen, of ...T) T { return of[c.Intn(len(of))] }

func (c *chosen) atom(bys, args []api.Term) api.Atom {
	f := by(one(c, bys...), atom(one(c, "p", "p", "q")))
	for range one(c, 0, 1, 2, 2, 2, 3) {
		f.Args = append(f.Args, one(c, args...))
	}
	return f
}

func (c *chosen) fact() api.Atom {
	return c.atom(vals(none, none, ann, a), vals(a, b, ann, num(5)))
}

// clause: a valid one with at most four variables.
func (c *chosen) clause() api.Clause {
	vars := vals(v(0), v(1), v(2), v(3))
	var out api.Clause
	for range one(c, 0, 1, 2, 2, 3, 3, 4) {
		out.Body = append(out.Body, c.atom(append(vals(none, none, none, none, ann, a), vars...), append(vals(a, b, num(5)), append(vars, vars...)...)))
	}
	free := vals(a, num(5), txt(""))
	for _, n := range bodyVariables(out, upTo(len(out.Body))...) {
		free = append(free, v(n), v(n))
	}
	out.Head = c.atom(vals(none, ann), free)
	for range c.Intn(4) {
		out.Tests = append(out.Tests, test(1+c.Intn(4), one(c, free...), one(c, free...)))
	}
	return clause.Normal(out)
}

// base: facts in all three parts.
func (c *chosen) base(t *testing.T) *both {
	x := newBoth(t)
	for i := range 3 {
		if i > 0 {
			x.turn()
		}
		for range c.Intn(20) {
			x.add(c.fact())
		}
	}
	return x
}

func solved(t *testing.T, s *base.Base, c api.Clause, lead int) [][]api.Term {
	t.Helper()
	l, err := plan.Solve(s, c, lead)
	if err != api.OK {
		t.Fatalf("P9.2: Solve(.., %v, %d) is %d", c, lead, err)
	}
	return l
}
