package proof

import (
	"cmp"
	"slices"

	"hearsay/api"
	"hearsay/clause"
	"hearsay/term"
)

// entries: a model's rules and facts, the facts' entries to be found quickly: what a model made by hand tells may stand in any order, and be told twice.
type entries struct {
	rules []api.Clause
	facts []api.Known
	order []int // the places of the entries in rising order of their facts; of those of one fact the first entry stands first
}

func newEntries(m api.Model) *entries {
	e := &entries{rules: m.Rules, facts: m.Facts, order: make([]int, len(m.Facts))}
	for i := range e.order {
		e.order[i] = i
	}
	slices.SortFunc(e.order, func(x, y int) int {
		return cmp.Or(term.CompareAtoms(e.facts[x].Fact, e.facts[y].Fact), cmp.Compare(x, y))
	})
	return e
}

// find: the place of the atom's entry, and whether it has one.
func (e *entries) find(a api.Atom) (int, bool) {
	i, there := slices.BinarySearchFunc(e.order, a, func(place int, a api.Atom) int {
		return term.CompareAtoms(e.facts[place].Fact, a)
	})
	if !there {
		return 0, false
	}
	return e.order[i], true
}

// leansOn: the places of the entries of what the one at this place leans on, in the body's order; and whether it holds together.
func (e *entries) leansOn(place int) ([]int, bool) {
	k := e.facts[place]
	if !isPlace(k.Rule, len(e.rules)) {
		return nil, false
	}
	c := clause.Instance(e.rules[k.Rule], k.Vals)
	if term.CompareAtoms(c.Head, k.Fact) != 0 {
		return nil, false
	}
	below := make([]int, len(c.Body))
	for i, a := range c.Body {
		at, there := e.find(a)
		if !there || e.facts[at].Round >= k.Round {
			return nil, false
		}
		below[i] = at
	}
	return below, true
}

// derive: the steps by which the fact of the entry at this place is put down, each with its rule's place in the model; and whether all entries that were met hold together. The walk ends, as what an entry that holds together leans on has a smaller round.
func (e *entries) derive(place int) ([]api.Step, bool) {
	var steps []api.Step
	numbers := map[string]int{} // from a fact's text to its step
	var put func(place int) (int, bool)
	put = func(place int) (int, bool) {
		text := textOf(e.facts[place].Fact)
		if number, stands := numbers[text]; stands {
			return number, true
		}
		below, together := e.leansOn(place)
		if !together {
			return 0, false
		}
		uses := make([]int, len(below))
		for i, at := range below {
			number, together := put(at)
			if !together {
				return 0, false
			}
			uses[i] = number
		}
		number := len(steps)
		numbers[text] = number
		steps = append(steps, api.Step{Rule: e.facts[place].Rule, Vals: slices.Clone(e.facts[place].Vals), Uses: uses})
		return number, true
	}
	_, together := put(place)
	return steps, together
}
