package base

import (
	"iter"
	"slices"

	"hearsay/api"
	"hearsay/rel"
	"hearsay/term"
)

func predOf(a api.Atom) api.Pred { return api.Pred{Name: a.Name, Arity: len(a.Args)} }

// terms: what stands in the columns of an atom's row: the qualifier in the first, the arguments behind it.
func terms(a api.Atom) []api.Term { return slices.Concat([]api.Term{a.By}, a.Args) }

// newRow: the fact as numbers; each of its terms has one from now on.
func (b *Base) newRow(f api.Atom) []int {
	var row []int
	for _, t := range terms(f) {
		row = append(row, b.enter(t))
	}
	return row
}

// row: the atom as numbers; false, if a term has none, for then no fact has that term.
func (b *Base) row(a api.Atom) ([]int, bool) {
	var row []int
	for _, t := range terms(a) {
		n, known := b.number(t)
		if !known {
			return nil, false
		}
		row = append(row, n)
	}
	return row, true
}

// fact: the one whose row this is, in new memory.
func (b *Base) fact(name string, row []int) api.Atom {
	f := api.Atom{By: b.thing(row[0]), Name: name, Args: make([]api.Term, len(row)-1)}
	for i, n := range row[1:] {
		f.Args[i] = b.thing(n)
	}
	return f
}

// relationFor: the predicate's relation, which is made if there is none yet.
func (b *Base) relationFor(p api.Pred) *rel.Rel {
	r := b.relations[p]
	if r == nil {
		r, _ = rel.New(1 + p.Arity) // ErrWidth can't be: no arity is below 0
		b.relations[p] = r
	}
	return r
}

// having: the predicate's facts whose rows have these numbers in these columns, not in order: numbers rise as their terms first came.
func (b *Base) having(p api.Pred, parts int, cols, key []int) iter.Seq[api.Atom] {
	return func(yield func(api.Atom) bool) {
		for row := range b.relations[p].Find(parts, cols, key) {
			if !yield(b.fact(p.Name, row)) {
				return
			}
		}
	}
}

// found: the parts' facts that the pattern matches, in order. They are all gathered ahead of the first one that is told, so that no change that follows reaches them.
func (b *Base) found(parts int, pattern api.Atom) []api.Atom {
	p := predOf(pattern)
	if b.relations[p] == nil {
		return nil
	}
	cols, key, possible := b.fixed(pattern)
	if !possible {
		return nil
	}
	var facts []api.Atom
	for f := range b.having(p, parts, cols, key) {
		if _, matches := term.Match(pattern, f, nil); matches {
			facts = append(facts, f)
		}
	}
	slices.SortFunc(facts, term.CompareAtoms)
	return facts
}

// fixed: the columns in which the pattern has no variable, with the numbers of what stands there; false, if something there has none, for then no fact has it.
func (b *Base) fixed(pattern api.Atom) (cols, key []int, possible bool) {
	for c, t := range terms(pattern) {
		if term.Variable(t) {
			continue
		}
		n, known := b.number(t)
		if !known {
			return nil, nil, false
		}
		cols = append(cols, c)
		key = append(key, n)
	}
	return cols, key, true
}
