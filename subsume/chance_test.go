package subsume_test

import (
	"math/rand"
	"slices"

	"hearsay/api"
	"hearsay/clause"
)

// chosen: clauses by chance, the same at every run. Few names and terms, so that much becomes part of something else.
type chosen struct{ *rand.Rand }

func newChosen(seed int64) *chosen { return &chosen{rand.New(rand.NewSource(seed))} }

func one[T any](c *chosen, of ...T) T { return of[c.Intn(len(of))] }

// bodyAtom: of q with one argument, e with two, r with none; mostly said by nobody.
func (c *chosen) bodyAtom(vars int) api.Atom {
	args := append(terms(a, num(1)), c.someVars(vars)...)
	x := one(c, q(one(c, args...)), atom("e", one(c, args...), one(c, args...)), atom("e", one(c, args...), one(c, args...)), atom("r"))
	x.By = one(c, append(nTimes(6, none), ann, bob, v(c.Intn(vars)))...)
	return x
}

// someVars: often enough to be chosen ahead of constants.
func (c *chosen) someVars(vars int) []api.Term {
	var l []api.Term
	for i := range vars {
		l = append(l, v(i), v(i), v(i))
	}
	return l
}

// clause: a valid one, with at most so many body atoms and variables.
func (c *chosen) clause(atoms, vars int) api.Clause {
	var out api.Clause
	for range c.Intn(atoms + 1) {
		out.Body = append(out.Body, c.bodyAtom(vars))
	}
	free := append(terms(a, num(1)), slices.Repeat(variablesOf(standing(out.Body, nil)), 3)...)
	out.Head = by(one(c, none, none, none, none, none, ann), one(c, p(), p(), p(), p(one(c, free...)), p(one(c, free...), one(c, free...)), q(one(c, free...))))
	for range one(c, 0, 0, 0, 1, 1, 2, 3) {
		out.Tests = append(out.Tests, test(1+c.Intn(4), one(c, free...), one(c, free...)))
	}
	return clause.Normal(out)
}

// under: a valid clause that x subsumes: values for its variables, further parts, everything in another order.
func (c *chosen) under(x api.Clause, vars int) api.Clause {
	for {
		var vals []api.Term
		for range variables(x) {
			vals = append(vals, one(c, append(terms(a, ann, num(1)), c.someVars(vars)...)...))
		}
		d := instance(x, vals)
		for range c.Intn(3) {
			d.Body = append(d.Body, c.bodyAtom(vars))
		}
		bound := append(terms(a, num(1)), variablesOf(standing(d.Body, nil))...)
		d.Tests = slices.DeleteFunc(d.Tests, func(t api.Test) bool { return holds(t) && c.Intn(2) == 0 })
		for range c.Intn(2) {
			d.Tests = append(d.Tests, test(1+c.Intn(4), one(c, bound...), one(c, bound...)))
		}
		if d = clause.Normal(c.turned(d)); clause.Check(d) == api.OK {
			return d
		}
	}
}

// turned: body and tests in another order.
func (c *chosen) turned(x api.Clause) api.Clause {
	x.Body, x.Tests = c.mixedAtoms(x.Body), slices.Clone(x.Tests)
	c.Shuffle(len(x.Tests), func(i, k int) { x.Tests[i], x.Tests[k] = x.Tests[k], x.Tests[i] })
	return x
}

func (c *chosen) mixedAtoms(l []api.Atom) []api.Atom {
	out := slices.Clone(l)
	c.Shuffle(len(out), func(i, k int) { out[i], out[k] = out[k], out[i] })
	return out
}

// spoilt: a valid clause that differs from x in one term or one part; x itself, if none is found.
func (c *chosen) spoilt(x api.Clause) api.Clause {
	for range 20 {
		d := x
		if c.Intn(2) == 0 && parts(x) > 0 {
			d = without(x, c.Intn(parts(x)))
		} else {
			at, i := c.Intn(len(standingIn(x))), -1
			to := one(c, none, a, ann, num(1), v(0), v(1))
			d = replaced(x, func(t api.Term) api.Term {
				if i++; i == at {
					return to
				}
				return t
			})
		}
		if d = clause.Normal(d); clause.Check(d) == api.OK {
			return d
		}
	}
	return x
}

// pair: two clauses of which the first subsumes the second, may do so, or just fails to.
func (c *chosen) pair(atoms, vars int) (api.Clause, api.Clause) {
	x := c.clause(atoms, vars)
	switch c.Intn(5) {
	case 0:
		return x, c.clause(atoms, vars)
	case 1, 2:
		return x, c.under(x, vars)
	}
	return x, c.spoilt(c.under(x, vars))
}

// family: some clauses, and others that these subsume or just fail to; some twice.
func (c *chosen) family(size int) []api.Clause {
	cs := rules(c.clause(3, 3))
	for len(cs) < size {
		x := one(c, cs...)
		d := one(c, x, c.clause(2, 3), c.under(x, 3), c.under(x, 3), c.spoilt(x), c.doubledPart(x))
		if len(d.Body) <= 4 && len(d.Tests) <= 3 && len(variables(d)) <= 3 {
			cs = append(cs, d)
		}
	}
	return c.mixed(cs)
}

// doubledPart: a clause that says the same as x: with an atom of its body twice, the second one with another variable.
func (c *chosen) doubledPart(x api.Clause) api.Clause {
	if len(x.Body) == 0 {
		return x
	}
	more := one(c, x.Body...)
	more.Args = slices.Clone(more.Args)
	if len(more.Args) > 0 {
		more.Args[c.Intn(len(more.Args))] = v(90)
	}
	x.Body = append(slices.Clone(x.Body), more)
	return clause.Normal(c.turned(x))
}

// mixed: the clauses in another order.
func (c *chosen) mixed(cs []api.Clause) []api.Clause {
	out := slices.Clone(cs)
	c.Shuffle(len(out), func(i, k int) { out[i], out[k] = out[k], out[i] })
	return out
}

// doubled: the clauses in another order, each at least once, and some again.
func (c *chosen) doubled(cs []api.Clause) []api.Clause {
	out := slices.Clone(cs)
	for range c.Intn(5) {
		if len(cs) > 0 {
			out = append(out, one(c, cs...))
		}
	}
	return c.mixed(out)
}
