package plan

import (
	"slices"

	"hearsay/api"
	"hearsay/base"
	"hearsay/term"
)

// search: a clause's body that is looked for in a base as the plan says.
type search struct {
	b    *base.Base
	c    api.Clause
	lead int
	plan api.Plan
}

// loop: one of the joins' nested loops: what the joins around it have bound, and the facts that it has still to try.
type loop struct {
	bound api.Binding
	rest  []api.Atom
}

// solutions: none twice, as two ways through the loops differ in an atom's fact, and so in a variable's value. Behind the last join's loop stands one that has nothing to try: where it is come to, all variables are bound.
func (s *search) solutions() [][]api.Term {
	if !s.hold(s.plan.Ahead, nil) {
		return nil
	}
	var found [][]api.Term
	last := len(s.plan.Joins)
	row := make([]loop, last+1)
on:
	for at := 0; ; at++ {
		if at < last {
			row[at].rest = s.facts(at, row[at].bound)
		} else {
			found = append(found, values(row[at].bound))
		}
		// Back to the innermost loop that has a fact left which fits, and on from there.
		for {
			for len(row[at].rest) > 0 {
				f := row[at].rest[0]
				row[at].rest = row[at].rest[1:]
				bound, fits := s.try(at, f, row[at].bound)
				if fits {
					row[at+1].bound = bound
					continue on
				}
			}
			if at == 0 {
				break on
			}
			at--
		}
	}
	return found
}

// facts: those that the atom of the join number at can become, with what is bound ahead of it.
func (s *search) facts(at int, bound api.Binding) []api.Atom {
	n := s.plan.Joins[at].Atom
	pattern := term.Apply(bound, s.c.Body[n])
	return slices.Collect(s.b.Find(s.parts(n), pattern))
}

// parts: those in which the atom number n is looked for. A lead is the first atom that is a fact of the new part, so no two leads share a solution; without one (-1) every atom stands behind it.
func (s *search) parts(n int) int {
	switch {
	case n > s.lead:
		return api.PartOld | api.PartNew
	case n == s.lead:
		return api.PartNew
	}
	return api.PartOld
}

// try: what is bound behind the join number at, if its atom becomes f, and whether its tests hold then.
func (s *search) try(at int, f api.Atom, bound api.Binding) (api.Binding, bool) {
	j := s.plan.Joins[at]
	more, _ := term.Match(s.c.Body[j.Atom], f, bound) // it matches, for f was found by what the atom is with these bound
	return more, s.hold(j.Tests, more)
}

// hold: whether all of these tests do.
func (s *search) hold(tests []int, bound api.Binding) bool {
	for _, n := range tests {
		if yes, _ := term.Decide(term.ApplyTest(bound, s.c.Tests[n])); !yes {
			return false
		}
	}
	return true
}

// values: what is bound, by the variables' numbers; all of them are.
func values(bound api.Binding) []api.Term {
	vals := make([]api.Term, len(bound))
	for _, b := range bound {
		vals[b.Var] = b.To
	}
	return vals
}
