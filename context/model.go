package context

import (
	"math"
	"sync"

	"hearsay/api"
	"hearsay/eval"
)

// enoughFuel: no model uses it up.
const enoughFuel = math.MaxInt

// someWorkers: no answer hangs on how many they are.
const someWorkers = 8

// attempt: an evaluation of clauses that stay as they are, run once, with the fuel of the one who asks first. Where that fuel is used up, the next attempt is for those who have more: so no query runs more rounds than it has fuel for, and of all attempts the last one alone comes to a model. Those who change nothing may ask at one time.
type attempt struct {
	once  sync.Once
	fuel  int
	model api.Model
	err   api.Errno
	next  *attempt // nil, unless the fuel was used up
}

func (a *attempt) run(clauses []api.Clause, fuel int) {
	a.fuel = fuel
	a.model, a.err = eval.Run(clauses, fuel, someWorkers)
	if a.err == api.ErrFuel {
		a.next = &attempt{}
	}
}

// attempted: the first attempt, in the order of their fuels, that was not refused for want of fuel, or had no less than this.
func (c *core) attempted(fuel int) *attempt {
	a := c.tries
	for {
		a.once.Do(func() { a.run(c.clauses(), fuel) })
		if a.next == nil || a.fuel >= fuel {
			return a
		}
		a = a.next
	}
}

// model: what Run answers of the clauses with this fuel. Run's errors. The model is the core's: nothing of it may be answered but in copies.
func (c *core) model(fuel int) (api.Model, error) {
	a := c.attempted(fuel)
	switch {
	case a.err == api.OK && a.model.Rounds > fuel:
		return api.Model{}, refused(api.ErrFuel)
	case a.err == api.ErrFacts && a.fuel > fuel:
		// Only the rounds can tell whether they find too many facts ahead of the end of this lesser fuel; there is no model to be made.
		_, err := eval.Run(c.clauses(), fuel, someWorkers)
		return api.Model{}, refused(err)
	}
	return a.model, refused(a.err)
}
