package goal

import (
	"hearsay/api"
	"hearsay/clause"
	"hearsay/term"
)

// goalVars: a goal's variables have numbers below it.
const goalVars = api.MaxArity + 1

func variable(n int) api.Term { return api.Term{Kind: api.KindVar, N: n} }

func predOf(a api.Atom) api.Pred { return api.Pred{Name: a.Name, Arity: len(a.Args)} }

func goalOf(a api.Atom) api.Atom {
	var s api.Binding
	for i, v := range term.Vars(a) {
		s = append(s, api.Bind{Var: v, To: variable(i)})
	}
	return term.Apply(s, a)
}

// apart: the valid clause, its variables renamed to such as no goal has.
func apart(c api.Clause) api.Clause {
	var others []api.Term
	for i := range clause.Vars(c) {
		others = append(others, variable(goalVars+i))
	}
	return clause.Instance(c, others)
}

// become: what the binding makes of the clause, without the tests that are decided then; false, if one of these doesn't hold.
func become(s api.Binding, c api.Clause) (api.Clause, bool) {
	var out api.Clause
	for _, x := range c.Tests {
		x = term.ApplyTest(s, x)
		holds, decided := term.Decide(x)
		switch {
		case !decided:
			out.Tests = append(out.Tests, x)
		case !holds:
			return api.Clause{}, false
		}
	}
	out.Head = term.Apply(s, c.Head)
	for _, a := range c.Body {
		out.Body = append(out.Body, term.Apply(s, a))
	}
	return out, true
}
