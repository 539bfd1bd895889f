package eval

import (
	"slices"
	"sync"
	"sync/atomic"

	"hearsay/api"
	"hearsay/base"
	"hearsay/clause"
	"hearsay/plan"
	"hearsay/term"
)

// noLead: with it a clause is solved over all that is known.
const noLead = -1

// evaluation: a least model in the making. While the workers of a round run, nothing of it is changed.
type evaluation struct {
	rules   []api.Clause
	workers int
	known   *base.Base  // what the rounds so far have found: the last one's in the new part, the others' in the old one
	facts   []api.Known // the same facts, as they were found
}

func newEvaluation(rules []api.Clause, workers int) *evaluation {
	return &evaluation{rules: rules, workers: min(max(workers, 1), api.MaxWorkers), known: base.New()}
}

// run: the number of rounds. ErrFuel, ErrFacts.
func (e *evaluation) run(fuel int) (int, api.Errno) {
	for number := 1; number <= fuel; number++ {
		found := e.round(number)
		if len(e.facts) > api.MaxFacts {
			return 0, api.ErrFacts
		}
		if found == 0 {
			return number, api.OK
		}
	}
	return 0, api.ErrFuel
}

// round: how many facts the round of this number finds. What the rules give is gone through in their order, each one's by its values: so the first time that a fact comes it comes with its first derivation.
func (e *evaluation) round(number int) int {
	for _, given := range e.deal(number) {
		for _, k := range given {
			if came, _ := e.known.Add(k.Fact); came {
				e.facts = append(e.facts, k)
			}
		}
	}
	return e.known.Turn()
}

// deal: what each rule gives in the round of this number, by the rules' places, whichever worker it fell to.
func (e *evaluation) deal(number int) [][]api.Known {
	given := make([][]api.Known, len(e.rules))
	var next atomic.Int64
	var all sync.WaitGroup
	for range e.workers {
		all.Add(1)
		go func() {
			defer all.Done()
			for {
				rule := int(next.Add(1)) - 1
				if rule >= len(e.rules) {
					return
				}
				given[rule] = e.give(rule, number)
			}
		}()
	}
	all.Wait()
	return given
}

// give: the facts that the rule at this place gives in the round of this number and that no earlier round found, by the values with which it gives them; a fact may come several times.
func (e *evaluation) give(rule, number int) []api.Known {
	c := e.rules[rule]
	head := api.Clause{Head: c.Head}
	var given []api.Known
	for _, vals := range e.solutions(c, number) {
		f := clause.Instance(head, vals).Head
		if e.known.Part(f) == 0 {
			given = append(given, api.Known{Fact: f, Round: number, Rule: rule, Vals: vals})
		}
	}
	return given
}

// solutions: those of the clause that can give what no earlier round found, in order. Behind the first round these are the ones that have a fact of the last round in their body: what others give was found by then.
func (e *evaluation) solutions(c api.Clause, number int) [][]api.Term {
	if number == 1 {
		return e.solve(c, noLead)
	}
	var all [][]api.Term
	for lead, a := range c.Body {
		if e.leads(a) {
			all = append(all, e.solve(c, lead)...)
		}
	}
	slices.SortFunc(all, compareValues)
	return all
}

func (e *evaluation) solve(c api.Clause, lead int) [][]api.Term {
	found, _ := plan.Solve(e.known, c, lead) // no error can be: the clause is valid, and has such an atom
	return found
}

// leads: whether the last round found what the atom can become. Most atoms lead to nothing in most rounds, and to ask this is far less work than to solve the clause.
func (e *evaluation) leads(a api.Atom) bool {
	for range e.known.Find(api.PartNew, a) {
		return true
	}
	return false
}

func compareValues(x, y []api.Term) int { return slices.CompareFunc(x, y, term.Compare) }
