package upkeep_test

import (
	"cmp"
	"slices"
	"strings"

	"hearsay/api"
)

// What follows asks nothing of the layers below: the order of atoms and clauses, what an atom matches, and a least model made by trying each clause on all facts, again and again, until nothing comes.

func variable(t api.Term) bool { return t == v(t.N) && t.N >= 0 }

func compareTerms(x, y api.Term) int {
	return cmp.Or(cmp.Compare(x.Kind, y.Kind), cmp.Compare(x.N, y.N), strings.Compare(x.S, y.S))
}

func compareAtoms(x, y api.Atom) int {
	return cmp.Or(strings.Compare(x.Name, y.Name), cmp.Compare(len(x.Args), len(y.Args)), compareTerms(x.By, y.By), slices.CompareFunc(x.Args, y.Args, compareTerms))
}

func compareTests(x, y api.Test) int {
	return cmp.Or(cmp.Compare(x.Op, y.Op), compareTerms(x.L, y.L), compareTerms(x.R, y.R))
}

func compareClauses(x, y api.Clause) int {
	return cmp.Or(compareAtoms(x.Head, y.Head), cmp.Compare(len(x.Body), len(y.Body)), slices.CompareFunc(x.Body, y.Body, compareAtoms), cmp.Compare(len(x.Tests), len(y.Tests)), slices.CompareFunc(x.Tests, y.Tests, compareTests))
}

// setOf: a copy of the list, sorted, none twice.
func setOf(cs []api.Clause) []api.Clause {
	out := slices.Clone(cs)
	slices.SortFunc(out, compareClauses)
	return slices.CompactFunc(out, func(x, y api.Clause) bool { return compareClauses(x, y) == 0 })
}

// columns: the qualifier, then the arguments.
func columns(x api.Atom) []api.Term { return append([]api.Term{x.By}, x.Args...) }

// values: what variables stand for, by their numbers.
type values map[int]api.Term

func (s values) of(t api.Term) api.Term {
	if to, bound := s[t.N]; bound && variable(t) {
		return to
	}
	return t
}

func (s values) atom(x api.Atom) api.Atom {
	l := columns(x)
	for i := range l {
		l[i] = s.of(l[i])
	}
	return api.Atom{By: l[0], Name: x.Name, Args: l[1:]}
}

func (s values) holds(t api.Test) bool {
	d := compareTerms(s.of(t.L), s.of(t.R))
	return t.Op == api.OpEq && d == 0 || t.Op == api.OpNe && d != 0 || t.Op == api.OpLt && d < 0 || t.Op == api.OpLe && d <= 0
}

// to: these values and those with which the pattern becomes the fact; false, if there are none.
func (s values) to(pattern, f api.Atom) (values, bool) {
	if pattern.Name != f.Name || len(pattern.Args) != len(f.Args) || variable(pattern.By) && f.By.Kind == api.KindNone {
		return nil, false
	}
	out := values{}
	for n, t := range s {
		out[n] = t
	}
	become := columns(f)
	for i, t := range columns(pattern) {
		if variable(t) && out.of(t) == t {
			out[t.N] = become[i]
		}
		if out.of(t) != become[i] {
			return nil, false
		}
	}
	return out, true
}

// plainAnswers: the facts that the atom matches, in order.
func plainAnswers(facts []api.Atom, asked api.Atom) []api.Atom {
	var out []api.Atom
	for _, f := range facts {
		if _, matches := (values{}).to(asked, f); matches {
			out = append(out, f)
		}
	}
	slices.SortFunc(out, compareAtoms)
	return out
}

// heads: what a clause gives over these facts.
func heads(c api.Clause, facts []api.Atom) []api.Atom {
	ways := []values{{}}
	for _, x := range c.Body {
		var on []values
		for _, s := range ways {
			for _, f := range facts {
				if more, matches := s.to(x, f); matches {
					on = append(on, more)
				}
			}
		}
		ways = on
	}
	var out []api.Atom
	for _, s := range ways {
		if !slices.ContainsFunc(c.Tests, func(t api.Test) bool { return !s.holds(t) }) {
			out = append(out, s.atom(c.Head))
		}
	}
	return out
}

// plainModel: the facts of valid clauses' least model, in order.
func plainModel(cs []api.Clause) []api.Atom {
	var facts []api.Atom
	for {
		found := slices.Clone(facts)
		for _, c := range cs {
			found = append(found, heads(c, facts)...)
		}
		slices.SortFunc(found, compareAtoms)
		found = slices.CompactFunc(found, sameAtom)
		if len(found) == len(facts) {
			return facts
		}
		facts = found
	}
}
