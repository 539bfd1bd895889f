package imply_test

import (
	"slices"
	"sync"
	"testing"

	"hearsay/api"
	"hearsay/imply"
)

// P15.7, R4, R5: the order of the clauses, doubles and other calls at the same time are seen nowhere.

// asked: what all calls answer of a list, and of each of some clauses beside it.
type asked struct {
	cs, of          []api.Clause
	redundant, left []api.Clause
	bodies          [][]api.Atom
	heads           []api.Atom
	yes             []bool
	errs            []api.Errno
}

func ask(cs, of []api.Clause) asked {
	x := asked{cs: cs, of: of}
	note := func(err api.Errno) { x.errs = append(x.errs, err) }
	redundant, err := imply.Redundant(cs)
	note(err)
	left, err := imply.Minimal(cs)
	note(err)
	x.redundant, x.left = redundant, left
	for _, l := range [][2][]api.Clause{{cs, of}, {of, cs}, {cs, left}, {redundant, cs}} {
		yes, err := imply.Equal(l[0], l[1])
		x.yes = append(x.yes, yes)
		note(err)
	}
	for _, c := range of {
		yes, err := imply.Implies(cs, c)
		x.yes = append(x.yes, yes)
		note(err)
		body, head, err := imply.Freeze(cs, c)
		x.bodies, x.heads = append(x.bodies, body), append(x.heads, head)
		note(err)
	}
	return x
}

func (x asked) same(y asked) bool {
	return sameClauses(x.redundant, y.redundant) && sameClauses(x.left, y.left) && slices.EqualFunc(x.bodies, y.bodies, same) && same(x.heads, y.heads) && slices.Equal(x.yes, y.yes) && slices.Equal(x.errs, y.errs)
}

// TestOrderAndDoubles: sets of 0 to 18 clauses, each in many orders.
func TestOrderAndDoubles(t *testing.T) {
	for size := range 19 {
		c := newChosen(int64(size))
		var cs []api.Clause
		for len(setOf(cs)) < size {
			cs = append(cs, c.family(3)...)
		}
		cs = setOf(cs)
		of := rules(c.clause(2, 3), c.clause(3, 3))
		if size > 0 {
			of = append(of, c.under(one(c, cs...), 3), c.joined(one(c, cs...), one(c, cs...)))
		}
		want := ask(cs, of)
		for range 8 {
			if mixed := c.doubled(cs); !ask(mixed, of).same(want) {
				t.Errorf("P15.7: of %q and %q, in the order %q, other answers than %v", told(cs), told(of), told(mixed), want)
			}
		}
		slices.Reverse(cs)
		if !ask(slices.Concat(cs, cs), of).same(want) {
			t.Errorf("P15.7: of %q, backwards and twice, and %q other answers than %v", told(cs), told(of), want)
		}
	}
}

// TestOrderOfBoth: of the two lists of Equal, with and without an error.
func TestOrderOfBoth(t *testing.T) {
	c := newChosen(9)
	for range 60 {
		as := c.family(4)
		bs := one(c, c.mixed(as), plus(as, c.under(as[0], 3)), c.family(4), plus(as, rule(p(v(0))), rule(atom("Q"))))
		want, err := imply.Equal(as, bs)
		for range 6 {
			if got, e := imply.Equal(c.doubled(as), c.doubled(bs)); got != want || e != err {
				t.Errorf("P15.7: Equal(%q, %q) is %v, %d, in another order %v, %d", told(as), told(bs), want, err, got, e)
			}
		}
	}
}

// TestAtOneTime: asked by several, of the same clauses and of others; and again, whatever was asked between.
func TestAtOneTime(t *testing.T) {
	var want []asked
	for seed := range int64(16) {
		c := newChosen(seed)
		cs := c.family(6)
		want = append(want, ask(cs, plus(c.family(2), cs[0], c.clause(3, 3))))
	}
	want = append(want, ask(clausesOf(refusals()), readAll(t, "p.")), ask(readAll(t, t1, t2, t3, t4), readAll(t, t1, t3)), ask(fours(t, 8), readAll(t, "p :- d(V0)."))) // refused by each of the errors, and not
	want = append(want, ask(tested(t), tested(t)), ask(nil, nil))
	var all sync.WaitGroup
	for first := range 8 {
		all.Go(func() {
			for i := range want {
				x := want[(first/2+i)%len(want)]
				if !ask(x.cs, x.of).same(x) {
					t.Errorf("R4: other answers of %q and %q, asked by several", told(x.cs), told(x.of))
				}
			}
		})
	}
	all.Wait()
}
