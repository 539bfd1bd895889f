package goal_test

import (
	"cmp"
	"slices"
	"strings"

	"hearsay/api"
)

// What follows is the chapter's four rules as they stand: all goals are asked of all clauses, again and again, each clause tried on all answers that are there by then, until nothing comes. It asks nothing of the layers below, and knows of no limits.

func variable(t api.Term) bool { return t == v(t.N) && t.N >= 0 }

func compareTerms(x, y api.Term) int {
	return cmp.Or(cmp.Compare(x.Kind, y.Kind), cmp.Compare(x.N, y.N), strings.Compare(x.S, y.S))
}

func compareAtoms(x, y api.Atom) int {
	return cmp.Or(strings.Compare(x.Name, y.Name), cmp.Compare(len(x.Args), len(y.Args)), compareTerms(x.By, y.By), slices.CompareFunc(x.Args, y.Args, compareTerms))
}

func compareTests(x, y api.Test) int {
	return cmp.Or(cmp.Compare(x.Op, y.Op), compareTerms(x.L, y.L), compareTerms(x.R, y.R))
}

func compareClauses(x, y api.Clause) int {
	return cmp.Or(compareAtoms(x.Head, y.Head), cmp.Compare(len(x.Body), len(y.Body)), slices.CompareFunc(x.Body, y.Body, compareAtoms), cmp.Compare(len(x.Tests), len(y.Tests)), slices.CompareFunc(x.Tests, y.Tests, compareTests))
}

// setOf: a copy of the list, sorted, none twice.
func setOf(cs []api.Clause) []api.Clause {
	out := slices.Clone(cs)
	slices.SortFunc(out, compareClauses)
	return slices.CompactFunc(out, func(x, y api.Clause) bool { return compareClauses(x, y) == 0 })
}

// columns: the qualifier, then the arguments.
func columns(x api.Atom) []api.Term { return append([]api.Term{x.By}, x.Args...) }

// each: the atom with what by makes of each of its terms, asked in their order.
func each(x api.Atom, by func(api.Term) api.Term) api.Atom {
	l := columns(x)
	for i, t := range l {
		l[i] = by(t)
	}
	return api.Atom{By: l[0], Name: x.Name, Args: l[1:]}
}

func eachOfAll(c api.Clause, by func(api.Term) api.Term) api.Clause {
	out := rule(each(c.Head, by))
	for _, x := range c.Body {
		out.Body = append(out.Body, each(x, by))
	}
	for _, x := range c.Tests {
		out.Tests = append(out.Tests, test(x.Op, by(x.L), by(x.R)))
	}
	return out
}

// put: one term in the place of another, everywhere.
func put(c api.Clause, from, to api.Term) api.Clause {
	return eachOfAll(c, func(t api.Term) api.Term {
		if t == from {
			return to
		}
		return t
	})
}

func goalOf(x api.Atom) api.Atom {
	var vars []api.Term
	return each(x, func(t api.Term) api.Term {
		if !variable(t) {
			return t
		}
		if !slices.Contains(vars, t) {
			vars = append(vars, t)
		}
		return v(slices.Index(vars, t))
	})
}

// unified: the clause, its variables apart from the goal's, as its head and the goal become the same; false, if they can't. The goal goes along as the first atom of the body, so that what becomes of its variables is seen.
func unified(g api.Atom, c api.Clause) (api.Clause, bool) {
	c = eachOfAll(c, func(t api.Term) api.Term {
		if variable(t) {
			return v(t.N + 1000)
		}
		return t
	})
	if g.Name != c.Head.Name || len(g.Args) != len(c.Head.Args) || variable(g.By) && c.Head.By == none {
		return api.Clause{}, false
	}
	c.Body = append(atoms(g), c.Body...)
	for i := range columns(g) {
		x, y := columns(c.Body[0])[i], columns(c.Head)[i]
		switch {
		case variable(y):
			c = put(c, y, x)
		case variable(x):
			c = put(c, x, y)
		case x != y:
			return api.Clause{}, false
		}
	}
	c.Body = c.Body[1:]
	return c, true
}

// on: the clause behind its first atom, as this becomes the answer.
func on(c api.Clause, f api.Atom) api.Clause {
	for i := range columns(f) {
		if x := columns(c.Body[0])[i]; variable(x) {
			c = put(c, x, columns(f)[i])
		}
	}
	c.Body = c.Body[1:]
	return c
}

func constant(t api.Term) bool { return t.Kind == api.KindNum || t.Kind == api.KindText }

// fails: whether it is decided, and doesn't hold.
func fails(x api.Test) bool {
	if !constant(x.L) || !constant(x.R) {
		return false
	}
	n := compareTerms(x.L, x.R)
	switch x.Op {
	case api.OpEq:
		return n != 0
	case api.OpNe:
		return n == 0
	case api.OpLt:
		return n >= 0
	}
	return n > 0
}

// plain: a table in the making; its goals and answers stand as they come.
type plain struct {
	calls []api.Call
	more  bool // something has come
}

// place: of the atom's goal, which is one of the table's from then on.
func (x *plain) place(of api.Atom) int {
	g := goalOf(of)
	i := slices.IndexFunc(x.calls, func(c api.Call) bool { return sameAtom(c.Goal, g) })
	if i >= 0 {
		return i
	}
	x.more = true
	x.calls = append(x.calls, api.Call{Goal: g})
	return len(x.calls) - 1
}

func (x *plain) answer(place int, f api.Atom) {
	if l := x.calls[place].Answers; !slices.ContainsFunc(l, func(y api.Atom) bool { return sameAtom(y, f) }) {
		x.more = true
		x.calls[place].Answers = append(l, f)
	}
}

// try: the clause at the first of its atoms, for the goal at this place.
func (x *plain) try(place int, c api.Clause) {
	if slices.ContainsFunc(c.Tests, fails) {
		return
	}
	if len(c.Body) == 0 {
		x.answer(place, c.Head)
		return
	}
	asked := x.place(c.Body[0])
	for _, f := range slices.Clone(x.calls[asked].Answers) {
		x.try(place, on(c, f))
	}
}

// plainTable: the table of the query over valid clauses.
func plainTable(cs []api.Clause, asked api.Atom) []api.Call {
	x := &plain{}
	x.place(asked)
	for x.more {
		x.more = false
		for place := 0; place < len(x.calls); place++ {
			for _, c := range cs {
				if tried, ok := unified(x.calls[place].Goal, c); ok {
					x.try(place, tried)
				}
			}
		}
	}
	for _, c := range x.calls {
		slices.SortFunc(c.Answers, compareAtoms)
	}
	slices.SortFunc(x.calls, func(x, y api.Call) int { return compareAtoms(x.Goal, y.Goal) })
	return x.calls
}
