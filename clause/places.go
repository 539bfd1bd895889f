package clause

import (
	"iter"

	"hearsay/api"
	"hearsay/term"
)

// atoms: the head, then the body's atoms.
func atoms(c api.Clause) iter.Seq[api.Atom] {
	return func(yield func(api.Atom) bool) {
		if !yield(c.Head) {
			return
		}
		for _, a := range c.Body {
			if !yield(a) {
				return
			}
		}
	}
}

// terms: what stands in the clause, in the order of its places.
func terms(c api.Clause) iter.Seq[api.Term] {
	return func(yield func(api.Term) bool) {
		for a := range atoms(c) {
			if !yield(a.By) {
				return
			}
			for _, t := range a.Args {
				if !yield(t) {
					return
				}
			}
		}
		for _, t := range c.Tests {
			if !yield(t.L) || !yield(t.R) {
				return
			}
		}
	}
}

// variables: the numbers of the clause's variables, each as often as it stands there.
func variables(c api.Clause) iter.Seq[int] {
	return func(yield func(int) bool) {
		for t := range terms(c) {
			if term.Variable(t) && !yield(t.N) {
				return
			}
		}
	}
}

func variableSet(c api.Clause) map[int]struct{} {
	set := map[int]struct{}{}
	for v := range variables(c) {
		set[v] = struct{}{}
	}
	return set
}
