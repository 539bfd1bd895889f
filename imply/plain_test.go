package imply_test

import (
	"cmp"
	"fmt"
	"slices"
	"strings"

	"hearsay/api"
)

// What follows is the chapter's words as they stand: least models are made by trying all values for all variables, again and again until nothing comes. It asks nothing of the layers below, and knows of no limits.

func variable(t api.Term) bool { return t == v(t.N) && t.N >= 0 }

func compareTerms(x, y api.Term) int {
	return cmp.Or(cmp.Compare(x.Kind, y.Kind), cmp.Compare(x.N, y.N), strings.Compare(x.S, y.S))
}

func compareAtoms(x, y api.Atom) int {
	return cmp.Or(strings.Compare(x.Name, y.Name), cmp.Compare(len(x.Args), len(y.Args)), compareTerms(x.By, y.By), slices.CompareFunc(x.Args, y.Args, compareTerms))
}

func compareTests(x, y api.Test) int {
	return cmp.Or(cmp.Compare(x.Op, y.Op), compareTerms(x.L, y.L), compareTerms(x.R, y.R))
}

func compareClauses(x, y api.Clause) int {
	return cmp.Or(compareAtoms(x.Head, y.Head), cmp.Compare(len(x.Body), len(y.Body)), slices.CompareFunc(x.Body, y.Body, compareAtoms), cmp.Compare(len(x.Tests), len(y.Tests)), slices.CompareFunc(x.Tests, y.Tests, compareTests))
}

// inOrder: a copy of the list, sorted, none twice.
func inOrder[T any](l []T, compare func(x, y T) int) []T {
	out := slices.Clone(l)
	slices.SortFunc(out, compare)
	return slices.CompactFunc(out, func(x, y T) bool { return compare(x, y) == 0 })
}

func setOf(cs []api.Clause) []api.Clause { return inOrder(cs, compareClauses) }

// columns: the qualifier, then the arguments.
func columns(x api.Atom) []api.Term { return append([]api.Term{x.By}, x.Args...) }

// standing: all terms of the atoms.
func standing(l []api.Atom) []api.Term {
	var out []api.Term
	for _, x := range l {
		out = append(out, columns(x)...)
	}
	return out
}

// atomsOf: the head, then the body.
func atomsOf(c api.Clause) []api.Atom { return append([]api.Atom{c.Head}, c.Body...) }

// variables: of the atoms, each once, by their numbers.
func variables(l []api.Atom) []api.Term {
	return inOrder(slices.DeleteFunc(standing(l), func(t api.Term) bool { return !variable(t) }), compareTerms)
}

// constants: those of valid clauses, in order.
func constants(cs []api.Clause) []api.Term {
	var out []api.Term
	for _, c := range cs {
		out = append(out, standing(atomsOf(c))...)
	}
	out = slices.DeleteFunc(out, func(t api.Term) bool { return t == none || variable(t) })
	return inOrder(out, compareTerms)
}

func become(vals []api.Term, x api.Atom) api.Atom {
	l := columns(x)
	for i, t := range l {
		if variable(t) {
			l[i] = vals[t.N]
		}
	}
	return api.Atom{By: l[0], Name: x.Name, Args: l[1:]}
}

func becomeAll(vals []api.Term, l []api.Atom) []api.Atom {
	var out []api.Atom
	for _, x := range l {
		out = append(out, become(vals, x))
	}
	return out
}

// key: a fact that can be a map's key.
type key struct {
	by   api.Term
	name string
	n    int
	args [8]api.Term
}

func keyOf(x api.Atom) key {
	k := key{by: x.By, name: x.Name, n: len(x.Args)}
	copy(k.args[:], x.Args)
	return k
}

// known: the facts of a least model.
type known map[key]struct{}

func (k known) has(f api.Atom) bool {
	_, there := k[keyOf(f)]
	return there
}

// hasAll: whether all atoms of the body are known, with these values.
func (k known) hasAll(vals []api.Term, body []api.Atom) bool {
	return !slices.ContainsFunc(body, func(x api.Atom) bool { return !k.has(become(vals, x)) })
}

// eachValues: all lists of n of these terms.
func eachValues(of []api.Term, n int) [][]api.Term {
	lists := [][]api.Term{nil}
	for range n {
		var more [][]api.Term
		for _, l := range lists {
			for _, t := range of {
				more = append(more, append(slices.Clone(l), t))
			}
		}
		lists = more
	}
	return lists
}

// plainModel: what follows from valid clauses without tests.
func plainModel(cs []api.Clause) known {
	k := known{}
	values := map[int][][]api.Term{}
	for before := -1; len(k) > before; {
		before = len(k)
		for _, c := range cs {
			n := len(variables(atomsOf(c)))
			if values[n] == nil {
				values[n] = eachValues(constants(cs), n)
			}
			for _, vals := range values[n] {
				if k.hasAll(vals, c.Body) {
					k[keyOf(become(vals, c.Head))] = struct{}{}
				}
			}
		}
	}
	return k
}

// fresh: so many texts f0, f1 .. that don't stand in the clauses.
func fresh(cs []api.Clause, many int) []api.Term {
	var out []api.Term
	stand := constants(cs)
	for n := 0; len(out) < many; n++ {
		if x := txt(fmt.Sprintf("f%d", n)); !slices.Contains(stand, x) {
			out = append(out, x)
		}
	}
	return out
}

func plainFreeze(cs []api.Clause, c api.Clause) ([]api.Atom, api.Atom) {
	vals := fresh(plus(cs, c), len(variables(atomsOf(c))))
	return becomeAll(vals, c.Body), become(vals, c.Head)
}

// beside: the clauses, and the facts as clauses without a body.
func beside(cs []api.Clause, facts []api.Atom) []api.Clause {
	out := slices.Clone(cs)
	for _, f := range facts {
		out = append(out, rule(f))
	}
	return out
}

func plainImplies(cs []api.Clause, c api.Clause) bool {
	body, head := plainFreeze(cs, c)
	return plainModel(beside(cs, body)).has(head)
}

func plainRedundant(cs []api.Clause) []api.Clause {
	var out []api.Clause
	all := setOf(cs)
	for i, c := range all {
		if plainImplies(allBut(all, i), c) {
			out = append(out, c)
		}
	}
	return out
}

func plainMinimal(cs []api.Clause) []api.Clause {
	left := setOf(cs)
	for i := len(left) - 1; i >= 0; i-- {
		if less := allBut(left, i); plainImplies(less, left[i]) {
			left = less
		}
	}
	return left
}

// minimalFromTheFirst: what Minimal isn't: gone through from the first to the last.
func minimalFromTheFirst(cs []api.Clause) []api.Clause {
	left := setOf(cs)
	for i := 0; i < len(left); {
		if less := allBut(left, i); plainImplies(less, left[i]) {
			left = less
		} else {
			i++
		}
	}
	return left
}

// minimalAgainstAll: what Minimal isn't: each clause against the whole set.
func minimalAgainstAll(cs []api.Clause) []api.Clause {
	gone := plainRedundant(cs)
	return slices.DeleteFunc(setOf(cs), func(c api.Clause) bool { return hasClause(gone, c) })
}

func plainEqual(as, bs []api.Clause) bool {
	not := func(cs []api.Clause) func(api.Clause) bool {
		return func(c api.Clause) bool { return !plainImplies(cs, c) }
	}
	return !slices.ContainsFunc(bs, not(as)) && !slices.ContainsFunc(as, not(bs))
}
