package proof

import (
	"slices"

	"hearsay/api"
	"hearsay/clause"
)

// Trim: the same derivation without what its last step doesn't need, no fact twice, no rule unused, rules in order.
func Trim(p api.Proof) api.Proof {
	if !laid(p) {
		return copied(p)
	}
	stands := standIns(p)
	kept := needed(p.Steps, stands)
	numbers := make([]int, len(p.Steps)) // those that the kept steps get
	var steps []api.Step
	for i, s := range p.Steps {
		if !kept[i] {
			continue
		}
		numbers[i] = len(steps)
		uses := make([]int, len(s.Uses))
		for j, u := range s.Uses {
			uses[j] = numbers[stands[u]]
		}
		steps = append(steps, api.Step{Rule: s.Rule, Vals: slices.Clone(s.Vals), Uses: uses})
	}
	return withRules(p.Rules, steps)
}

// laid: whether there are steps, each of a rule that is there, each from earlier ones.
func laid(p api.Proof) bool {
	for i, s := range p.Steps {
		if !isPlace(s.Rule, len(p.Rules)) {
			return false
		}
		for _, u := range s.Uses {
			if !isPlace(u, i) {
				return false
			}
		}
	}
	return len(p.Steps) > 0
}

// standIns: of each step the number of the one that stands for it: the first with the same fact.
func standIns(p api.Proof) []int {
	first := map[string]int{} // from a fact's text to its first step
	stands := make([]int, len(p.Steps))
	for i, f := range Facts(p) {
		text := textOf(f)
		number, met := first[text]
		if !met {
			number = i
			first[text] = i
		}
		stands[i] = number
	}
	return stands
}

// needed: which steps are kept. A step uses earlier ones alone, and what stands for one isn't behind it: so one way from the last step to the first comes by them all.
func needed(steps []api.Step, stands []int) []bool {
	kept := make([]bool, len(steps))
	last := len(steps) - 1
	kept[stands[last]] = true
	for i := last; i >= 0; i-- {
		if !kept[i] {
			continue
		}
		for _, u := range steps[i].Uses {
			kept[stands[u]] = true
		}
	}
	return kept
}

// copied: the derivation as it is, in new memory.
func copied(p api.Proof) api.Proof {
	out := api.Proof{Rules: make([]api.Clause, len(p.Rules)), Steps: make([]api.Step, len(p.Steps))}
	for i, c := range p.Rules {
		out.Rules[i] = clause.Instance(c, nil) // without values nothing is replaced
	}
	for i, s := range p.Steps {
		out.Steps[i] = api.Step{Rule: s.Rule, Vals: slices.Clone(s.Vals), Uses: slices.Clone(s.Uses)}
	}
	return out
}
