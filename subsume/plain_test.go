package subsume_test

import (
	"cmp"
	"iter"
	"slices"
	"strings"

	"hearsay/api"
)

// What follows is the chapter's words as they stand: all values are tried, from the least on, and nothing is asked of the layers below. It is meant for valid clauses with few variables.

func variable(t api.Term) bool { return t == v(t.N) && t.N >= 0 }

func constant(t api.Term) bool { return t.Kind == api.KindNum || t.Kind == api.KindText }

func principal(t api.Term) bool { return t.Kind == api.KindText && t.S != "" }

func compareTerms(x, y api.Term) int {
	return cmp.Or(cmp.Compare(x.Kind, y.Kind), cmp.Compare(x.N, y.N), strings.Compare(x.S, y.S))
}

func compareAtoms(x, y api.Atom) int {
	return cmp.Or(strings.Compare(x.Name, y.Name), cmp.Compare(len(x.Args), len(y.Args)), compareTerms(x.By, y.By), slices.CompareFunc(x.Args, y.Args, compareTerms))
}

func compareTests(x, y api.Test) int {
	return cmp.Or(cmp.Compare(x.Op, y.Op), compareTerms(x.L, y.L), compareTerms(x.R, y.R))
}

func compareClauses(x, y api.Clause) int {
	return cmp.Or(compareAtoms(x.Head, y.Head), cmp.Compare(len(x.Body), len(y.Body)), slices.CompareFunc(x.Body, y.Body, compareAtoms), cmp.Compare(len(x.Tests), len(y.Tests)), slices.CompareFunc(x.Tests, y.Tests, compareTests))
}

// inOrder: a copy of the list, sorted, none twice.
func inOrder[T any](l []T, compare func(x, y T) int) []T {
	out := slices.Clone(l)
	slices.SortFunc(out, compare)
	return slices.CompactFunc(out, func(x, y T) bool { return compare(x, y) == 0 })
}

func setOf(cs []api.Clause) []api.Clause { return inOrder(cs, compareClauses) }

// columns: the qualifier, then the arguments.
func columns(x api.Atom) []api.Term { return append([]api.Term{x.By}, x.Args...) }

// standing: all terms of the atoms and tests, in the order of their places.
func standing(l []api.Atom, tests []api.Test) []api.Term {
	var out []api.Term
	for _, x := range l {
		out = append(out, columns(x)...)
	}
	for _, x := range tests {
		out = append(out, x.L, x.R)
	}
	return out
}

// standingIn: all terms of the clause, in the order of their places.
func standingIn(c api.Clause) []api.Term {
	return append(columns(c.Head), standing(c.Body, c.Tests)...)
}

// variablesOf: each once, in the order in which they first stand.
func variablesOf(l []api.Term) []api.Term {
	var out []api.Term
	for _, t := range l {
		if variable(t) && !slices.Contains(out, t) {
			out = append(out, t)
		}
	}
	return out
}

func variables(c api.Clause) []api.Term { return variablesOf(standingIn(c)) }

// replaced: the clause with what of makes of each term.
func replaced(c api.Clause, of func(api.Term) api.Term) api.Clause {
	out := api.Clause{Head: replacedInAtom(c.Head, of)}
	for _, x := range c.Body {
		out.Body = append(out.Body, replacedInAtom(x, of))
	}
	for _, x := range c.Tests {
		out.Tests = append(out.Tests, test(x.Op, of(x.L), of(x.R)))
	}
	return out
}

func replacedInAtom(x api.Atom, of func(api.Term) api.Term) api.Atom {
	l := columns(x)
	for i := range l {
		l[i] = of(l[i])
	}
	return api.Atom{By: l[0], Name: x.Name, Args: l[1:]}
}

// values: what a term becomes.
type values []api.Term

func (l values) of(t api.Term) api.Term {
	if variable(t) {
		return l[t.N]
	}
	return t
}

func instance(c api.Clause, vals []api.Term) api.Clause { return replaced(c, values(vals).of) }

func numberedAnew(c api.Clause) api.Clause {
	vars := variables(c)
	return replaced(c, func(t api.Term) api.Term {
		if variable(t) {
			return v(slices.Index(vars, t))
		}
		return t
	})
}

// holds: a test that is decided and holds.
func holds(t api.Test) bool {
	if !constant(t.L) || !constant(t.R) {
		return false
	}
	d := compareTerms(t.L, t.R)
	return t.Op == api.OpEq && d == 0 || t.Op == api.OpNe && d != 0 || t.Op == api.OpLt && d < 0 || t.Op == api.OpLe && d <= 0
}

func hasAtom(l []api.Atom, x api.Atom) bool {
	return slices.ContainsFunc(l, func(y api.Atom) bool { return sameAtom(x, y) })
}

// becomesPart: whether c becomes part of d by these values.
func becomesPart(c, d api.Clause, vals values) bool {
	if !sameAtom(replacedInAtom(c.Head, vals.of), d.Head) {
		return false
	}
	for _, x := range c.Body {
		if who := vals.of(x.By); variable(x.By) && !variable(who) && !principal(who) || !hasAtom(d.Body, replacedInAtom(x, vals.of)) {
			return false
		}
	}
	for _, x := range c.Tests {
		if y := test(x.Op, vals.of(x.L), vals.of(x.R)); !slices.Contains(d.Tests, y) && !holds(y) {
			return false
		}
	}
	return true
}

// eachValues: all lists of n of these terms, in order if the terms are. The list that is handed on is changed by the next one.
func eachValues(of []api.Term, n int) iter.Seq[[]api.Term] {
	return func(yield func([]api.Term) bool) {
		vals := make([]api.Term, n)
		var fill func(at int) bool
		fill = func(at int) bool {
			if at == n {
				return yield(vals)
			}
			for _, t := range of {
				vals[at] = t
				if !fill(at + 1) {
					return false
				}
			}
			return true
		}
		fill(0)
	}
}

// allValues: all by which c becomes part of d, in order. Each variable of c stands in its body, so it becomes a term of d.
func allValues(c, d api.Clause) iter.Seq[[]api.Term] {
	return func(yield func([]api.Term) bool) {
		for vals := range eachValues(inOrder(standingIn(d), compareTerms), len(variables(c))) {
			if becomesPart(c, d, vals) && !yield(vals) {
				return
			}
		}
	}
}

func plainSubsumes(c, d api.Clause) answer {
	for vals := range allValues(c, d) {
		return answer{slices.Clone(vals), true}
	}
	return answer{}
}

// firstFound: what Subsumes isn't: the values of the first way that is found if the atoms of c are tried one by one, each with the atoms of d as they stand there.
func firstFound(c, d api.Clause) answer {
	return byPlaces(c, d, func(best, vals []api.Term) bool { return best == nil })
}

// leastFound: the least values of all ways of making each atom of c into an atom of d. It is meant for clauses with many variables and few atoms.
func leastFound(c, d api.Clause) answer {
	return byPlaces(c, d, func(best, vals []api.Term) bool {
		return best == nil || slices.CompareFunc(vals, best, compareTerms) < 0
	})
}

// byPlaces: of all ways the last one that is better than the best before it.
func byPlaces(c, d api.Clause, better func(best, vals []api.Term) bool) answer {
	var best []api.Term
	vals := make([]api.Term, len(variables(c)))
	var fill func(at int)
	fill = func(at int) {
		if at == len(c.Body) {
			if becomesPart(c, d, vals) && better(best, vals) {
				best = append([]api.Term{}, vals...)
			}
			return
		}
		from, before := columns(c.Body[at]), slices.Clone(vals)
		for _, x := range d.Body {
			if x.Name == c.Body[at].Name && len(x.Args) == len(c.Body[at].Args) && become(vals, from, columns(x)) {
				fill(at + 1)
			}
			copy(vals, before)
		}
	}
	fill(0)
	return answer{best, best != nil}
}

// become: puts down what the variables of from become; false if that isn't one thing each, or something else differs.
func become(vals, from, to []api.Term) bool {
	for i, t := range from {
		if !variable(t) && t != to[i] || variable(t) && vals[t.N] != none && vals[t.N] != to[i] {
			return false
		}
		if variable(t) {
			vals[t.N] = to[i]
		}
	}
	return true
}

func plainReduce(cs []api.Clause) []api.Clause {
	left := setOf(cs)
	for i := len(left) - 1; i >= 0; i-- {
		if oneSubsumes(allBut(left, i), left[i]) {
			left = allBut(left, i)
		}
	}
	return left
}

func oneSubsumes(cs []api.Clause, d api.Clause) bool {
	return slices.ContainsFunc(cs, func(c api.Clause) bool { return plainSubsumes(c, d).yes })
}

// reducedFromTheFirst: what Reduce isn't: gone through from the first to the last.
func reducedFromTheFirst(cs []api.Clause) []api.Clause {
	left := setOf(cs)
	for i := 0; i < len(left); {
		if oneSubsumes(allBut(left, i), left[i]) {
			left = allBut(left, i)
		} else {
			i++
		}
	}
	return left
}

// reducedAgainstAll: what Reduce isn't: each against the whole set.
func reducedAgainstAll(cs []api.Clause) []api.Clause {
	all := setOf(cs)
	var left []api.Clause
	for i, c := range all {
		if !oneSubsumes(allBut(all, i), c) {
			left = append(left, c)
		}
	}
	return left
}

func parts(c api.Clause) int { return len(c.Body) + len(c.Tests) }

func without(c api.Clause, part int) api.Clause {
	if part < len(c.Body) {
		c.Body = allBut(c.Body, part)
	} else {
		c.Tests = allBut(c.Tests, part-len(c.Body))
	}
	return c
}

// safe: what a valid clause that has lost a part must still be.
func safe(c api.Clause) bool {
	bound := standing(c.Body, nil)
	return !slices.ContainsFunc(variables(c), func(t api.Term) bool { return !slices.Contains(bound, t) })
}

// mayGo: whether this part of a valid clause may.
func mayGo(c api.Clause, part int) bool {
	less := without(c, part)
	return safe(less) && plainSubsumes(c, numberedAnew(less)).yes
}

// oneTurn: gone through once, from the last part to the first.
func oneTurn(c api.Clause) api.Clause {
	for i := parts(c) - 1; i >= 0; i-- {
		if mayGo(c, i) {
			c = numberedAnew(without(c, i))
		}
	}
	return c
}

func plainCondense(c api.Clause) api.Clause {
	for {
		less := oneTurn(c)
		if sameClause(less, c) {
			return c
		}
		c = less
	}
}

// condensedFromTheFirst: what Condense isn't: gone through from the first part to the last.
func condensedFromTheFirst(c api.Clause) api.Clause {
	for i := 0; i < parts(c); {
		if mayGo(c, i) {
			c = numberedAnew(without(c, i))
		} else {
			i++
		}
	}
	return c
}
