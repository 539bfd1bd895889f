package upkeep

import (
	"hearsay/api"
	"hearsay/base"
	"hearsay/clause"
	"hearsay/plan"
	"hearsay/term"
)

// noLead: with it a clause is fired over all facts of a base that were there at its last turn.
const noLead = -1

// rules: clauses, to be found by what they give and by what they are made of.
type rules struct {
	byHead map[api.Pred][]api.Clause
	byBody map[api.Pred][]place
}

// place: an atom of a clause's body.
type place struct {
	in   api.Clause
	atom int
}

func rulesOf(cs []api.Clause) rules {
	r := rules{byHead: map[api.Pred][]api.Clause{}, byBody: map[api.Pred][]place{}}
	for _, c := range cs {
		head := predOf(c.Head)
		r.byHead[head] = append(r.byHead[head], c)
		for i, a := range c.Body {
			p := predOf(a)
			r.byBody[p] = append(r.byBody[p], place{in: c, atom: i})
		}
	}
	return r
}

// grow: puts the facts, and all that follows from them, into a base from which the rules give nothing else that it hasn't; answered are those that weren't there. False, if there is no room for so many. Each one that came is gone through once, over all that is there by then: of those in an instance's body the last one finds the others.
func (r rules) grow(known *base.Base, first []api.Atom) ([]api.Atom, bool) {
	room := api.MaxFacts - known.Len(api.PartAll)
	came := added(known, first)
	for next := 0; len(came) <= room; next++ {
		if next == len(came) {
			return came, true
		}
		known.Turn()
		came = append(came, added(known, r.made(known, came[next]))...)
	}
	return nil, false
}

// lost: which facts of the model of the rules and the clause don't follow from the rules alone. Each fact that some instance makes of the clause, or of one that is in doubt, is in doubt at first: so the others are sure, and what leans on itself alone isn't found again from them.
func (r rules) lost(all facts, c api.Clause) []api.Atom {
	known := baseOf(all)
	doubted := r.doubted(known, fire(known, c))
	sure := baseOf(all.without(doubted))
	var given []api.Atom
	for _, f := range doubted {
		if r.give(sure, f) {
			given = append(given, f)
		}
	}
	stay, _ := r.grow(sure, given) // there is room: no other facts come than were there
	for _, f := range stay {
		delete(doubted, textOf(f))
	}
	return doubted.list()
}

// doubted: these facts, and those that have one of them in a body, and so on.
func (r rules) doubted(known *base.Base, first []api.Atom) facts {
	doubted := facts{}
	ahead := doubted.take(first)
	for next := 0; next < len(ahead); next++ {
		ahead = append(ahead, doubted.take(r.made(known, ahead[next]))...)
	}
	return doubted
}

// made: the heads of the rules' instances that have the fact in their body, and all of their body in the base.
func (r rules) made(known *base.Base, f api.Atom) []api.Atom {
	var heads []api.Atom
	for _, p := range r.byBody[predOf(f)] {
		if s, matches := term.Match(p.in.Body[p.atom], f, nil); matches {
			heads = append(heads, fire(known, with(s, p.in))...)
		}
	}
	return heads
}

// give: whether an instance of a rule has the fact as its head, and all of its body in the base.
func (r rules) give(known *base.Base, f api.Atom) bool {
	for _, c := range r.byHead[predOf(f)] {
		if s, matches := term.Match(c.Head, f, nil); matches && len(fire(known, with(s, c))) > 0 {
			return true
		}
	}
	return false
}

// with: the valid clause with what the binding says in the place of its variables; those that are left are numbered anew.
func with(s api.Binding, c api.Clause) api.Clause {
	vals := make([]api.Term, clause.Vars(c))
	for i := range vals {
		vals[i] = api.Term{Kind: api.KindVar, N: i}
	}
	for _, b := range s {
		vals[b.Var] = b.To
	}
	return clause.Normal(clause.Instance(c, vals))
}

// fire: the heads of the clause's instances whose body is in the base. A valid clause that some values were put into may be refused, if a qualifier has become what is no principal: no fact is said so, and it has no instance there.
func fire(known *base.Base, c api.Clause) []api.Atom {
	heads, _ := plan.Fire(known, c, noLead)
	return heads
}

// baseOf: a base of the facts, turned, so that they are found.
func baseOf(s facts) *base.Base {
	known := base.New()
	added(known, s.list())
	known.Turn()
	return known
}

// added: puts the facts into the base; those that weren't there.
func added(known *base.Base, l []api.Atom) []api.Atom {
	var came []api.Atom
	for _, f := range l {
		if isNew, _ := known.Add(f); isNew {
			came = append(came, f)
		}
	}
	return came
}

func predOf(a api.Atom) api.Pred { return api.Pred{Name: a.Name, Arity: len(a.Args)} }
