package goal

import (
	"hearsay/api"
	"hearsay/term"
)

// item: something that is to be done for a table.
type item interface{ do(t *table) }

// asking: a goal that is to be asked of the clauses.
type asking struct{ of *entry }

// trying: what is left of a clause, to be tried on an answer of its first atom's goal.
type trying struct {
	left   *rest
	answer api.Atom
}

func (x asking) do(t *table) {
	for _, c := range t.clauses[predOf(x.of.goal)] {
		s, ok := term.Unify(x.of.goal, c.Head)
		if !ok {
			continue
		}
		if c, ok := become(s, c); ok {
			t.try(x.of, c)
		}
	}
}

func (x trying) do(t *table) {
	c := x.left.clause
	s, _ := term.Match(c.Body[0], x.answer, nil) // there is a binding: the atom's goal became the answer
	c.Body = c.Body[1:]
	if c, ok := become(s, c); ok {
		t.try(x.left.of, c)
	}
}

// list: what is to be done. Goals come first: they are at most MaxCalls, and often enough by themselves to show that the table is too great, while a clause may have more ways to be tried than can be gone through. Of each kind the last that came comes first, so that a clause that is being tried gets to its answers soon.
type list struct{ goals, tries []item }

func (l *list) put(x item) {
	switch x.(type) {
	case asking:
		l.goals = append(l.goals, x)
	default:
		l.tries = append(l.tries, x)
	}
}

// take: the next item, which is in the list no more; false, if there is none.
func (l *list) take() (item, bool) {
	from := &l.goals
	if len(*from) == 0 {
		from = &l.tries
	}
	last := len(*from) - 1
	if last < 0 {
		return nil, false
	}
	x := (*from)[last]
	*from = (*from)[:last]
	return x, true
}
