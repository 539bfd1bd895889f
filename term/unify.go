package term

import "hearsay/api"

// Unify: the most general binding that makes a and b the same; false if there is none. A class of variables stands for its constant, or for its least variable, which isn't bound.
func Unify(a, b api.Atom) (api.Binding, bool) {
	if !sameShape(a, b) {
		return nil, false
	}
	var c classes
	for i := range places(a) {
		if !c.link(place(a, i), place(b, i)) {
			return nil, false
		}
	}
	if !c.canSay(a.By) || !c.canSay(b.By) {
		return nil, false
	}
	return c.binding(), true
}

// classes: the terms that are linked with others, each once, with a way up from each to its class's best: the fixed term if there is one, else the least variable.
type classes struct {
	terms []api.Term
	up    []int
}

// link: false if that would make two fixed terms one.
func (c *classes) link(t, u api.Term) bool {
	if t == u {
		return true
	}
	i, k := c.best(t), c.best(u)
	if i == k {
		return true
	}
	t, u = c.terms[i], c.terms[k]
	switch {
	case Variable(u) && (!Variable(t) || t.N < u.N):
		c.up[k] = i
	case Variable(t):
		c.up[i] = k
	default:
		return false
	}
	return true
}

// best: the place of the best of t's class.
func (c *classes) best(t api.Term) int {
	i := c.find(t)
	for c.up[i] != i {
		c.up[i] = c.up[c.up[i]]
		i = c.up[i]
	}
	return i
}

// bestTerm: the best of t's class. Where it stands is asked in a statement of its own: asking may put t behind the terms, and the language doesn't say whether they would be read ahead of a call in the index or behind it.
func (c *classes) bestTerm(t api.Term) api.Term {
	i := c.best(t)
	return c.terms[i]
}

func (c *classes) find(t api.Term) int {
	for i, u := range c.terms {
		if u == t {
			return i
		}
	}
	i := len(c.terms)
	c.terms = append(c.terms, t)
	c.up = append(c.up, i)
	return i
}

// canSay: whether the qualifier by stands for one who can say something, if it is a variable; a fixed one stays what it is.
func (c *classes) canSay(by api.Term) bool {
	if !Variable(by) {
		return true
	}
	t := c.bestTerm(by)
	return Variable(t) || Principal(t)
}

func (c *classes) binding() api.Binding {
	var out api.Binding
	for _, t := range c.terms {
		to := c.bestTerm(t)
		if Variable(t) && to != t {
			out = append(out, api.Bind{Var: t.N, To: to})
		}
	}
	sortBinds(out)
	return out
}
