package context

import (
	"slices"

	"hearsay/api"
	"hearsay/eval"
	"hearsay/syntax"
	"hearsay/term"
)

// watched: a query under watch, and its mark: the answers that were told last.
type watched struct {
	query api.Atom
	mark  []api.Atom
}

func (c *core) watch(text string) (int, error) {
	asked, fault := syntax.Query(text)
	if fault.Err != api.OK {
		return 0, refusedAt(fault)
	}
	m, err := c.model(enoughFuel)
	if err != nil {
		return 0, err
	}
	if len(c.watches) >= api.MaxWatches {
		return 0, refused(api.ErrWatch)
	}
	c.watches = append(c.watches, watched{asked, eval.Answers(m, asked)})
	return len(c.watches), nil
}

func (c *core) news(number int) (api.Change, error) {
	if number < 1 || number > len(c.watches) {
		return api.Change{}, refused(api.ErrWatch)
	}
	m, err := c.model(enoughFuel)
	if err != nil {
		return api.Change{}, err
	}
	w := &c.watches[number-1]
	now := eval.Answers(m, w.query)
	change := api.Change{Came: without(now, w.mark), Gone: without(w.mark, now)}
	w.mark = now
	return change, nil
}

// without: the atoms of the one list that aren't in the other, which is in order; in new memory, as marks are kept.
func without(l, others []api.Atom) []api.Atom {
	var left []api.Atom
	for _, a := range l {
		if _, there := slices.BinarySearchFunc(others, a, term.CompareAtoms); !there {
			left = append(left, api.Atom{By: a.By, Name: a.Name, Args: slices.Clone(a.Args)})
		}
	}
	return left
}
