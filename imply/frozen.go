package imply

import (
	"slices"
	"strconv"

	"hearsay/api"
	"hearsay/clause"
	"hearsay/term"
)

// frozen: from each variable of a clause to its fresh constant. The text stands there as a term, to be put in the variable's place as it is.
type frozen map[api.Term]api.Term

// freeze: the variables of a valid clause, which are numbered from 0 on, by the fresh constants in their order.
func freeze(cs []api.Clause, c api.Clause) frozen {
	standing := clause.Consts(append(slices.Clone(cs), c))
	vars, texts := clause.Vars(c), frozen{}
	for n := 0; len(texts) < vars; n++ {
		text := api.Term{Kind: api.KindText, S: "f" + strconv.Itoa(n)}
		if _, stands := slices.BinarySearchFunc(standing, text, term.Compare); stands {
			continue
		}
		variable := api.Term{Kind: api.KindVar, N: len(texts)}
		texts[variable] = text
	}
	return texts
}

// term: what isn't one of the clause's variables stands for itself.
func (f frozen) term(t api.Term) api.Term {
	if text, is := f[t]; is {
		return text
	}
	return t
}

func (f frozen) atom(a api.Atom) api.Atom {
	out := api.Atom{By: f.term(a.By), Name: a.Name}
	for _, t := range a.Args {
		out.Args = append(out.Args, f.term(t))
	}
	return out
}

func (f frozen) atoms(l []api.Atom) []api.Atom {
	var out []api.Atom
	for _, a := range l {
		out = append(out, f.atom(a))
	}
	return out
}
