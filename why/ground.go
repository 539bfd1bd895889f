package why

import (
	"slices"
	"sync"

	"hearsay/api"
	"hearsay/clause"
	"hearsay/eval"
	"hearsay/term"
)

// mostTriers: so many sets of clauses, each without one of them, are evaluated at one time, and no more, as each takes the room of a model.
const mostTriers = 8

// ground: what a fact follows from. A derivation shows which of the clauses are enough: without any other one the fact follows too, so no model has to be made to know it.
type ground struct {
	rules []api.Clause // in order, none twice
	leans []bool       // by the rules' places: whether the fact's first derivation leans on it
}

// groundOf: what Whole refuses, ErrNoFact.
func groundOf(cs []api.Clause, f api.Atom) (ground, api.Errno) {
	m, err := eval.Whole(cs)
	if err != api.OK {
		return ground{}, err
	}
	place, follows := placeOf(m, f)
	if !follows {
		return ground{}, api.ErrNoFact
	}
	return ground{rules: m.Rules, leans: leansOn(m, place)}, api.OK
}

// leansOn: which rules stand in the first derivation of the fact at this place, and in those of all facts that it is made of.
func leansOn(m api.Model, place int) []bool {
	leans, met := make([]bool, len(m.Rules)), make([]bool, len(m.Facts))
	ahead := []int{place}
	for len(ahead) > 0 {
		last := len(ahead) - 1
		fact := ahead[last]
		ahead = ahead[:last]
		if met[fact] {
			continue
		}
		met[fact] = true
		leans[m.Facts[fact].Rule] = true
		ahead = append(ahead, madeOf(m, m.Facts[fact])...)
	}
	return leans
}

// madeOf: the places of the facts that a first derivation has as its body.
func madeOf(m api.Model, k api.Known) []int {
	var places []int
	for _, a := range clause.Instance(m.Rules[k.Rule], k.Vals).Body {
		place, _ := placeOf(m, a) // it is there: a derivation is made of facts of its model
		places = append(places, place)
	}
	return places
}

// spare: what is left when the clause at this place goes, if the fact follows without it. What stands ahead of this place keeps its own.
func (g ground) spare(place int, f api.Atom) ground {
	rest := allBut(g.rules, place)
	if !g.leans[place] {
		return ground{rules: rest, leans: allBut(g.leans, place)}
	}
	less, err := groundOf(rest, f)
	if err != api.OK {
		return g
	}
	return less
}

// trial: what came of leaving out the clause at a place.
type trial struct {
	place   int
	follows bool
}

// missed: the places of the clauses without which, each alone, the fact doesn't follow; in the order in which the trials end.
func (g ground) missed(f api.Atom) []int {
	mightGo := g.leanedOn()
	found := make(chan trial)
	var triers sync.WaitGroup
	for first := range mostTriers {
		triers.Add(1)
		go func() {
			defer triers.Done()
			for i := first; i < len(mightGo); i += mostTriers {
				place := mightGo[i]
				_, follows := placeOf(modelOf(allBut(g.rules, place)), f)
				found <- trial{place: place, follows: follows}
			}
		}()
	}
	go func() {
		triers.Wait()
		close(found)
	}()
	var places []int
	for t := range found {
		if !t.follows {
			places = append(places, t.place)
		}
	}
	return places
}

// leanedOn: the places of the rules on which the derivation leans.
func (g ground) leanedOn() []int {
	var places []int
	for place, leans := range g.leans {
		if leans {
			places = append(places, place)
		}
	}
	return places
}

// modelOf: of some of the clauses of which there is a model; so there is one of these.
func modelOf(cs []api.Clause) api.Model {
	m, _ := eval.Whole(cs)
	return m
}

func placeOf(m api.Model, f api.Atom) (int, bool) {
	return slices.BinarySearchFunc(m.Facts, f, func(k api.Known, f api.Atom) int { return term.CompareAtoms(k.Fact, f) })
}

// allBut: the list without what stands at this place; the list itself stays.
func allBut[T any](l []T, place int) []T { return slices.Delete(slices.Clone(l), place, place+1) }
