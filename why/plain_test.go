package why_test

import (
	"cmp"
	"math/rand"
	"slices"
	"strings"

	"hearsay/api"
	"hearsay/clause"
)

// What follows is the chapter's words as they stand: least models are made by trying all values for all variables, again and again until nothing comes; and every clause is tried with a model of its own. It asks nothing of the layers below, and knows of no derivations.

func variable(t api.Term) bool { return t == v(t.N) && t.N >= 0 }

func compareTerms(x, y api.Term) int {
	return cmp.Or(cmp.Compare(x.Kind, y.Kind), cmp.Compare(x.N, y.N), strings.Compare(x.S, y.S))
}

func compareAtoms(x, y api.Atom) int {
	return cmp.Or(strings.Compare(x.Name, y.Name), cmp.Compare(len(x.Args), len(y.Args)), compareTerms(x.By, y.By), slices.CompareFunc(x.Args, y.Args, compareTerms))
}

func compareTests(x, y api.Test) int {
	return cmp.Or(cmp.Compare(x.Op, y.Op), compareTerms(x.L, y.L), compareTerms(x.R, y.R))
}

func compareClauses(x, y api.Clause) int {
	return cmp.Or(compareAtoms(x.Head, y.Head), cmp.Compare(len(x.Body), len(y.Body)), slices.CompareFunc(x.Body, y.Body, compareAtoms), cmp.Compare(len(x.Tests), len(y.Tests)), slices.CompareFunc(x.Tests, y.Tests, compareTests))
}

// inOrder: a copy of the list, sorted, none twice.
func inOrder[T any](l []T, compare func(x, y T) int) []T {
	out := slices.Clone(l)
	slices.SortFunc(out, compare)
	return slices.CompactFunc(out, func(x, y T) bool { return compare(x, y) == 0 })
}

func setOf(cs []api.Clause) []api.Clause { return inOrder(cs, compareClauses) }

// columns: the qualifier, then the arguments.
func columns(x api.Atom) []api.Term { return append([]api.Term{x.By}, x.Args...) }

// standing: all terms of a clause.
func standing(c api.Clause) []api.Term {
	l := columns(c.Head)
	for _, x := range c.Body {
		l = append(l, columns(x)...)
	}
	for _, x := range c.Tests {
		l = append(l, x.L, x.R)
	}
	return l
}

// variables: the numbers of the clause's variables, each once, rising.
func variables(c api.Clause) []int {
	var out []int
	for _, t := range standing(c) {
		if variable(t) {
			out = append(out, t.N)
		}
	}
	return inOrder(out, cmp.Compare)
}

// constants: those of valid clauses, in order.
func constants(cs []api.Clause) []api.Term {
	var out []api.Term
	for _, c := range cs {
		out = append(out, standing(c)...)
	}
	out = slices.DeleteFunc(out, func(t api.Term) bool { return t == none || variable(t) })
	return inOrder(out, compareTerms)
}

func value(vals []api.Term, t api.Term) api.Term {
	if variable(t) {
		return vals[t.N]
	}
	return t
}

func become(vals []api.Term, x api.Atom) api.Atom {
	l := columns(x)
	for i := range l {
		l[i] = value(vals, l[i])
	}
	return api.Atom{By: l[0], Name: x.Name, Args: l[1:]}
}

func holds(vals []api.Term, t api.Test) bool {
	d := compareTerms(value(vals, t.L), value(vals, t.R))
	return t.Op == api.OpEq && d == 0 || t.Op == api.OpNe && d != 0 || t.Op == api.OpLt && d < 0 || t.Op == api.OpLe && d <= 0
}

// allHold: whether all tests of the clause do, with these values.
func allHold(vals []api.Term, c api.Clause) bool {
	return !slices.ContainsFunc(c.Tests, func(t api.Test) bool { return !holds(vals, t) })
}

// key: a fact that can be a map's key.
type key struct {
	by   api.Term
	name string
	n    int
	args [8]api.Term
}

func keyOf(x api.Atom) key {
	k := key{by: x.By, name: x.Name, n: len(x.Args)}
	copy(k.args[:], x.Args)
	return k
}

// known: the facts of a least model.
type known map[key]api.Atom

func (k known) has(f api.Atom) bool {
	_, there := k[keyOf(f)]
	return there && len(f.Args) <= 8
}

// inOrder: the facts, in order.
func (k known) inOrder() []api.Atom {
	var l []api.Atom
	for _, f := range k {
		l = append(l, f)
	}
	return inOrder(l, compareAtoms)
}

// hasAll: whether all atoms of the body are known, with these values.
func (k known) hasAll(vals []api.Term, body []api.Atom) bool {
	return !slices.ContainsFunc(body, func(x api.Atom) bool { return !k.has(become(vals, x)) })
}

// eachValues: all lists of n of these terms.
func eachValues(of []api.Term, n int) [][]api.Term {
	lists := [][]api.Term{nil}
	for range n {
		var more [][]api.Term
		for _, l := range lists {
			for _, t := range of {
				more = append(more, append(slices.Clone(l), t))
			}
		}
		lists = more
	}
	return lists
}

// plainModel: what follows from valid clauses.
func plainModel(cs []api.Clause) known {
	k := known{}
	values := map[int][][]api.Term{}
	for before := -1; len(k) > before; {
		before = len(k)
		for _, c := range cs {
			n := len(variables(c))
			if values[n] == nil {
				values[n] = eachValues(constants(cs), n)
			}
			for _, vals := range values[n] {
				if allHold(vals, c) && k.hasAll(vals, c.Body) {
					head := become(vals, c.Head)
					k[keyOf(head)] = head
				}
			}
		}
	}
	return k
}

// plainFollows: whether f is a fact of the clauses' least model.
func plainFollows(cs []api.Clause, f api.Atom) bool { return plainModel(cs).has(f) }

func plainSupport(cs []api.Clause, f api.Atom) []api.Clause {
	left := setOf(cs)
	for i := len(left) - 1; i >= 0; i-- {
		if less := allBut(left, i); plainFollows(less, f) {
			left = less
		}
	}
	return left
}

func plainNeeded(cs []api.Clause, f api.Atom) []api.Clause {
	var needed []api.Clause
	all := setOf(cs)
	for i, c := range all {
		if !plainFollows(allBut(all, i), f) {
			needed = append(needed, c)
		}
	}
	return needed
}

func plainWithout(cs []api.Clause, u string) []api.Clause {
	var left []api.Clause
	for _, c := range setOf(cs) {
		if c.Head.By.Kind != api.KindText || c.Head.By.N != 0 || c.Head.By.S != u {
			left = append(left, c)
		}
	}
	return left
}

func plainLoss(cs []api.Clause, u string) []api.Atom {
	stay := plainModel(plainWithout(cs, u))
	return slices.DeleteFunc(plainModel(cs).inOrder(), stay.has)
}

// chosen: programs by chance, the same at every run. Few names and terms, so that rules feed each other and facts come in several ways; and heads that ann and bob say.
type chosen struct{ *rand.Rand }

func newChosen(seed int64) *chosen { return &chosen{rand.New(rand.NewSource(seed))} }

func one[T any](c *chosen, of ...T) T { return of[c.Intn(len(of))] }

func (c *chosen) atom(bys, args []api.Term) api.Atom {
	f := by(one(c, bys...), atom(one(c, "p", "p", "q")))
	for range one(c, 0, 1, 1, 1, 1, 2) {
		f.Args = append(f.Args, one(c, args...))
	}
	return f
}

func (c *chosen) fact() api.Clause {
	return rule(c.atom(append(nTimes(6, none), ann, bob), terms(a, a, num(1))))
}

// rule: a valid one with at most three variables.
func (c *chosen) rule() api.Clause {
	vars := terms(v(0), v(0), v(1))
	var out api.Clause
	for range one(c, 0, 1, 1, 1, 1, 2, 2, 3) {
		out.Body = append(out.Body, c.atom(append(nTimes(9, none), ann, bob, v(0), v(2)), append(terms(a, num(1)), slices.Repeat(vars, 4)...)))
	}
	free := terms(a, num(1))
	for _, n := range variables(out) {
		free = append(free, nTimes(4, v(n))...)
	}
	out.Head = c.atom(append(nTimes(6, none), ann, ann, bob), free)
	for range one(c, 0, 0, 0, 0, 1) {
		out.Tests = append(out.Tests, test(1+c.Intn(4), one(c, free...), one(c, free...)))
	}
	return clause.Normal(out)
}

// chain: rules that hand a fact on from predicate to predicate, in rings too.
func (c *chosen) chain() []api.Clause {
	cs := rules(rule(atom("c0", one(c, a, num(1)))))
	for range 4 + c.Intn(6) {
		x, y := atom(one(c, "c0", "c1", "c2", "p"), v(0)), atom(one(c, "c0", "c1", "c2", "c3", "p"), v(0))
		cs = append(cs, rule(by(one(c, none, none, none, none, ann), y), by(one(c, none, none, none, none, ann), x)))
	}
	return cs
}

// program: facts, rules and chains in any order, some twice.
func (c *chosen) program() []api.Clause {
	var cs []api.Clause
	for range c.Intn(7) {
		cs = append(cs, c.fact())
	}
	for range 1 + c.Intn(9) {
		cs = append(cs, c.rule())
	}
	if c.Intn(2) == 0 {
		cs = append(cs, c.chain()...)
	}
	for range c.Intn(3) {
		cs = append(cs, one(c, cs...))
	}
	return c.mixed(cs)
}

// mixed: the clauses in another order.
func (c *chosen) mixed(cs []api.Clause) []api.Clause {
	out := slices.Clone(cs)
	c.Shuffle(len(out), func(i, k int) { out[i], out[k] = out[k], out[i] })
	return out
}

// doubled: the clauses in another order, each at least once, and some again.
func (c *chosen) doubled(cs []api.Clause) []api.Clause {
	out := slices.Clone(cs)
	for range c.Intn(5) {
		if len(cs) > 0 {
			out = append(out, one(c, cs...))
		}
	}
	return c.mixed(out)
}
