package imply_test

import (
	"math/rand"
	"slices"

	"hearsay/api"
	"hearsay/clause"
	"hearsay/term"
)

// chosen: clauses by chance, the same at every run. Few names and terms, so that clauses feed each other; some constants are texts that variables are frozen to.
type chosen struct{ *rand.Rand }

func newChosen(seed int64) *chosen { return &chosen{rand.New(rand.NewSource(seed))} }

func one[T any](c *chosen, of ...T) T { return of[c.Intn(len(of))] }

// someConstants: the texts f0 and f1 are seldom there.
func (c *chosen) someConstants() []api.Term {
	l := terms(a, num(1))
	if c.Intn(4) == 0 {
		l = append(l, txt("f0"), txt("f1"))
	}
	return l
}

// someVars: often enough to be chosen ahead of constants.
func someVars(vars int) []api.Term {
	var l []api.Term
	for i := range vars {
		l = append(l, nTimes(4, v(i))...)
	}
	return l
}

// atom: of p and q with one argument, e with two, r with none; mostly said by nobody.
func (c *chosen) atom(bys, args []api.Term) api.Atom {
	x := one(c, p(one(c, args...)), q(one(c, args...)), atom("e", one(c, args...), one(c, args...)), atom("e", one(c, args...), one(c, args...)), atom("r"))
	x.By = one(c, append(nTimes(8, none), bys...)...)
	return x
}

func (c *chosen) bodyAtom(vars int) api.Atom {
	return c.atom(terms(ann, txt("f0"), v(c.Intn(vars))), append(c.someConstants(), someVars(vars)...))
}

// clause: a valid one, with at most so many body atoms and variables.
func (c *chosen) clause(atoms, vars int) api.Clause {
	var out api.Clause
	for range min(c.Intn(atoms+2), atoms) {
		out.Body = append(out.Body, c.bodyAtom(vars))
	}
	free := append(c.someConstants(), slices.Repeat(variables(out.Body), 4)...)
	out.Head = c.atom(terms(ann, txt("f0")), free)
	return clause.Normal(out)
}

// under: a valid clause that x implies: values for its variables, further atoms, everything in another order.
func (c *chosen) under(x api.Clause, vars int) api.Clause {
	for {
		d := clause.Instance(x, c.values(len(variables(atomsOf(x))), vars))
		for range c.Intn(3) {
			d.Body = append(d.Body, c.bodyAtom(vars))
		}
		c.Shuffle(len(d.Body), func(i, k int) { d.Body[i], d.Body[k] = d.Body[k], d.Body[i] })
		if d = clause.Normal(d); clause.Check(d) == api.OK {
			return d
		}
	}
}

func (c *chosen) values(many, vars int) []api.Term {
	var l []api.Term
	for range many {
		l = append(l, one(c, append(terms(a, ann, num(1)), someVars(vars)...)...))
	}
	return l
}

// alike: a clause that says the same as x: its body in another order, an atom there once more, some terms of which may be another variable.
func (c *chosen) alike(x api.Clause) api.Clause {
	d := clause.Normal(x)
	if len(d.Body) == 0 {
		return d
	}
	more := clause.Normal(x).Body[c.Intn(len(x.Body))]
	for i := range more.Args {
		if c.Intn(2) == 0 {
			more.Args[i] = v(90)
		}
	}
	d.Body = append(d.Body, more)
	c.Shuffle(len(d.Body), func(i, k int) { d.Body[i], d.Body[k] = d.Body[k], d.Body[i] })
	if d = clause.Normal(d); clause.Check(d) == api.OK {
		return d
	}
	return x
}

// joined: a valid clause that x and y imply together: y with an atom of its body made by x; y itself, if there is none.
func (c *chosen) joined(x, y api.Clause) api.Clause {
	var apart []api.Term
	for i := range api.MaxVars {
		apart = append(apart, v(100+i))
	}
	x = clause.Instance(x, apart)
	for at, of := range y.Body {
		s, ok := term.Unify(x.Head, of)
		if !ok {
			continue
		}
		d := api.Clause{Head: term.Apply(s, y.Head)}
		for _, part := range slices.Concat(y.Body[:at], x.Body, y.Body[at+1:]) {
			d.Body = append(d.Body, term.Apply(s, part))
		}
		if d = clause.Normal(d); clause.Check(d) == api.OK {
			return d
		}
	}
	return y
}

// spoilt: a valid clause that differs from x in one term, or has an atom less; x itself, if none is found.
func (c *chosen) spoilt(x api.Clause) api.Clause {
	for range 20 {
		d := clause.Normal(x)
		switch {
		case len(x.Body) > 0 && c.Intn(2) == 0:
			d.Body = allBut(d.Body, c.Intn(len(d.Body)))
		case len(x.Body) > 0 && c.Intn(4) > 0:
			c.change(&d.Body[c.Intn(len(d.Body))])
		default:
			c.change(&d.Head)
		}
		if d = clause.Normal(d); clause.Check(d) == api.OK {
			return d
		}
	}
	return x
}

func (c *chosen) change(x *api.Atom) {
	if at := c.Intn(len(x.Args) + 1); at == 0 {
		x.By = one(c, none, ann, txt("f0"), v(0), v(1))
	} else {
		x.Args[at-1] = one(c, a, num(1), txt("f1"), v(0), v(1), v(2))
	}
}

// family: some clauses, and others that these imply, alone or together, or just fail to; some twice. None has more than four variables.
func (c *chosen) family(size int) []api.Clause {
	cs := rules(c.clause(2, 3), c.clause(2, 3))
	for len(cs) < size {
		x, y := one(c, cs...), one(c, cs...)
		d := one(c, x, c.clause(2, 3), c.clause(3, 3), c.under(x, 3), c.joined(x, y), c.joined(x, y), c.alike(x), c.alike(x), c.spoilt(c.joined(x, y)), c.spoilt(c.under(x, 3)))
		if len(d.Body) <= 4 && len(variables(atomsOf(d))) <= 3 {
			cs = append(cs, d)
		}
	}
	return c.mixed(cs[len(cs)-size:])
}

// question: clauses, and one that these imply, or just fail to.
func (c *chosen) question() ([]api.Clause, api.Clause) {
	for {
		cs := c.family(c.Intn(6))
		x := c.clause(3, 3)
		if len(cs) > 0 && c.Intn(8) > 0 {
			x = one(c, cs...)
			for range c.Intn(12) {
				if d := one(c, c.joined(one(c, cs...), x), c.joined(x, one(c, cs...))); len(d.Body) <= 5 {
					x = d
				}
			}
			x = one(c, x, x, c.under(x, 4), c.spoilt(x), c.spoilt(c.under(x, 4)))
		}
		if len(variables(atomsOf(x))) <= 4 {
			return cs, x
		}
	}
}

// facts: as clauses without a body, over which rules have something to give; the frozen texts are among their constants.
func (c *chosen) facts() []api.Clause {
	var cs []api.Clause
	for range c.Intn(14) {
		cs = append(cs, rule(c.atom(terms(ann, bob, txt("f0"), txt("f1")), terms(a, a, ann, num(1), num(2), txt("f0"), txt("f1"), txt("f2"), txt("")))))
	}
	return cs
}

// mixed: the clauses in another order.
func (c *chosen) mixed(cs []api.Clause) []api.Clause {
	out := slices.Clone(cs)
	c.Shuffle(len(out), func(i, k int) { out[i], out[k] = out[k], out[i] })
	return out
}

// doubled: the clauses in another order, each at least once, and some again.
func (c *chosen) doubled(cs []api.Clause) []api.Clause {
	out := slices.Clone(cs)
	for range c.Intn(5) {
		if len(cs) > 0 {
			out = append(out, one(c, cs...))
		}
	}
	return c.mixed(out)
}
