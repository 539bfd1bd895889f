package goal

import (
	"slices"

	"hearsay/api"
	"hearsay/clause"
	"hearsay/term"
)

// table: a table in the making.
type table struct {
	clauses map[api.Pred][]api.Clause // by the predicates of their heads, each apart from every goal
	goals   []*entry                  // as they came
	byText  map[string]*entry         // the same, by their goals' texts
	answers int                       // of all goals
	toDo    list
}

// entry: a goal of the table, with what belongs to it so far.
type entry struct {
	goal    api.Atom
	answers []api.Atom
	found   map[string]struct{} // the texts of the answers
	tried   map[string]struct{} // the texts of the rests that were tried for this goal
	waiting []*rest             // those, of whatever goals, that are tried on each answer
}

// rest: what is left of a clause that is tried for a goal: the head, the atoms that it hasn't been tried at, the tests that aren't decided.
type rest struct {
	of     *entry
	clause api.Clause
}

func newTable(set []api.Clause) *table {
	t := &table{clauses: map[api.Pred][]api.Clause{}, byText: map[string]*entry{}}
	for _, c := range set {
		p := predOf(c.Head)
		t.clauses[p] = append(t.clauses[p], apart(c))
	}
	return t
}

// complete: does what is to be done, until nothing is left; false, if the table is too great. It only grows, so the rest of it needn't be made then.
func (t *table) complete() bool {
	for !t.tooGreat() {
		x, left := t.toDo.take()
		if !left {
			return true
		}
		x.do(t)
	}
	return false
}

func (t *table) tooGreat() bool {
	return len(t.goals) > api.MaxCalls || t.answers > api.MaxFacts
}

// ask: the entry of the atom's goal, which is to be asked if it is new.
func (t *table) ask(a api.Atom) *entry {
	g := goalOf(a)
	text := textOfAtom(g)
	if e, there := t.byText[text]; there {
		return e
	}
	e := &entry{goal: g, found: map[string]struct{}{}, tried: map[string]struct{}{}}
	t.byText[text] = e
	t.goals = append(t.goals, e)
	t.toDo.put(asking{e})
	return e
}

// try: the clause, as it is by then, is tried at its first atom for the goal; behind its last one its head is an answer. What is left of several clauses, or of one in several ways, may be the same: it is tried once.
func (t *table) try(of *entry, c api.Clause) {
	if len(c.Body) == 0 {
		t.answer(of, c.Head)
		return
	}
	c = clause.Normal(c)
	if !isNew(of.tried, textOfClause(c)) {
		return
	}
	r := &rest{of: of, clause: c}
	asked := t.ask(c.Body[0])
	asked.waiting = append(asked.waiting, r)
	for _, f := range asked.answers {
		t.toDo.put(trying{r, f})
	}
}

func (t *table) answer(of *entry, f api.Atom) {
	if !isNew(of.found, textOfAtom(f)) {
		return
	}
	of.answers = append(of.answers, f)
	t.answers++
	for _, r := range of.waiting {
		t.toDo.put(trying{r, f})
	}
}

// isNew: whether the text isn't in the set yet; from then on it is.
func isNew(set map[string]struct{}, text string) bool {
	_, there := set[text]
	set[text] = struct{}{}
	return !there
}

func (t *table) inOrder() []api.Call {
	var calls []api.Call
	for _, e := range t.goals {
		calls = append(calls, api.Call{Goal: e.goal, Answers: e.inOrder()})
	}
	slices.SortFunc(calls, func(x, y api.Call) int { return term.CompareAtoms(x.Goal, y.Goal) })
	return calls
}

func (e *entry) inOrder() []api.Atom {
	slices.SortFunc(e.answers, term.CompareAtoms)
	return e.answers
}
