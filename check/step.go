package check

import (
	"hearsay/api"
	"hearsay/clause"
	"hearsay/term"
)

// factOf: what a step says, where ahead are the facts of the steps ahead of it. If it doesn't hold, it gives up with the first error; each demand leans on those ahead of it being met.
func factOf(s api.Step, rules []api.Clause, ahead []api.Atom) api.Atom {
	demand(isPlace(s.Rule, len(rules)) && clause.Check(rules[s.Rule]) == api.OK, api.ErrRule)
	rule := rules[s.Rule]
	demand(len(s.Vals) == clause.Vars(rule), api.ErrVals)
	for _, t := range s.Vals {
		demand(term.Const(t), api.ErrVals)
	}
	demand(len(s.Uses) == len(rule.Body), api.ErrUses)
	for _, u := range s.Uses {
		demand(isPlace(u, len(ahead)), api.ErrUses)
	}
	instance := clause.Instance(rule, s.Vals)
	for _, t := range instance.Tests {
		holds, _ := term.Decide(t)
		demand(holds, api.ErrFails)
	}
	for i, a := range instance.Body {
		demand(sameAtom(a, ahead[s.Uses[i]]), api.ErrMismatch)
	}
	return instance.Head
}

// demand: gives up by a panic with the error, which Conclude answers, so that a step is looked at from above to below and nothing behind a demand has to ask whether it was met.
func demand(met bool, err api.Errno) {
	if !met {
		panic(err)
	}
}

// isPlace: whether n is a place in a list of so many.
func isPlace(n, many int) bool { return n >= 0 && n < many }
