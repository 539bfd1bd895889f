package plan

import (
	"cmp"
	"slices"

	"hearsay/api"
	"hearsay/clause"
	"hearsay/term"
)

// planner: a plan in the making.
type planner struct {
	c     api.Clause
	met   []bool // by a variable's number: does it stand in an atom that is joined already?
	atoms []int  // the atoms that are not joined yet, rising
	tests []int  // the tests that stand nowhere in the plan yet, rising
}

// newPlanner: for a valid clause: its variables' numbers are those below their count.
func newPlanner(c api.Clause) *planner {
	return &planner{c: c, met: make([]bool, clause.Vars(c)), atoms: below(len(c.Body)), tests: below(len(c.Tests))}
}

// below: the numbers from 0 on, n of them.
func below(n int) []int {
	var l []int
	for i := range n {
		l = append(l, i)
	}
	return l
}

func (p *planner) plan(lead int) api.Plan {
	// No variable is met yet, so just the tests without variables are ready.
	out := api.Plan{Ahead: p.ready()}
	if lead != noLead {
		out.Joins = append(out.Joins, p.join(lead))
	}
	for len(p.atoms) > 0 {
		best := p.best()
		out.Joins = append(out.Joins, p.join(best))
	}
	return out
}

// best: the atom that is joined next.
func (p *planner) best() int {
	return slices.MinFunc(p.atoms, func(i, k int) int {
		first, second := p.knownColumns(i), p.knownColumns(k)
		// Where as many columns are known, the one with fewer columns has fewer that aren't.
		return cmp.Or(
			cmp.Compare(len(second), len(first)),
			cmp.Compare(len(p.c.Body[i].Args), len(p.c.Body[k].Args)),
			cmp.Compare(i, k),
		)
	})
}

// join: the join of the atom number n. Its known columns are asked for ahead of its own variables being met, its tests behind that.
func (p *planner) join(n int) api.Join {
	known := p.knownColumns(n)
	p.atoms = slices.DeleteFunc(p.atoms, func(i int) bool { return i == n })
	for _, v := range term.Vars(p.c.Body[n]) {
		p.met[v] = true
	}
	return api.Join{Atom: n, Known: known, Tests: p.ready()}
}

// ready: the tests all of whose sides are known, rising; none is told a second time.
func (p *planner) ready() []int {
	var ready, rest []int
	for _, n := range p.tests {
		if t := p.c.Tests[n]; p.known(t.L) && p.known(t.R) {
			ready = append(ready, n)
		} else {
			rest = append(rest, n)
		}
	}
	p.tests = rest
	return ready
}

func (p *planner) knownColumns(n int) []int {
	var known []int
	for i, t := range columns(p.c.Body[n]) {
		if p.known(t) {
			known = append(known, i)
		}
	}
	return known
}

func (p *planner) known(t api.Term) bool { return !term.Variable(t) || p.met[t.N] }

func columns(a api.Atom) []api.Term { return slices.Concat([]api.Term{a.By}, a.Args) }
