package subsume_test

import (
	"slices"
	"sync"
	"testing"

	"hearsay/api"
	"hearsay/clause"
	"hearsay/subsume"
)

// P14.5, P14.7, R4, R5.

// smallClauses: every valid clause of these heads and at most two of these body atoms, some with a test.
func smallClauses() []api.Clause {
	heads := atoms(p(), p(v(0)), by(ann, p()))
	body := atoms(q(v(0)), q(v(1)), q(a), by(ann, q(v(0))), by(v(1), q(v(0))), atom("e", v(0), v(1)), atom("e", v(0), v(0)), atom("e", v(1), v(0)))
	tests := []api.Test{test(api.OpNe, v(0), a), test(api.OpLt, v(0), v(1)), test(api.OpEq, a, a)}
	var cs []api.Clause
	add := func(c api.Clause) {
		if c = clause.Normal(c); clause.Check(c) == api.OK {
			cs = append(cs, c)
		}
	}
	for _, h := range heads {
		bodies := [][]api.Atom{nil}
		for _, x := range body {
			bodies = append(bodies, atoms(x))
			for _, y := range body {
				bodies = append(bodies, atoms(x, y))
			}
		}
		for _, l := range bodies {
			add(rule(h, l...))
			for _, x := range tests {
				add(with(rule(h, l...), x))
			}
		}
	}
	return setOf(cs)
}

// TestAllSmallClauses: that it is an order, and what the plain version has, of all pairs.
func TestAllSmallClauses(t *testing.T) {
	cs := smallClauses()
	below := make([][]int, len(cs)) // the places of what each one subsumes
	part := make([][]bool, len(cs))
	for i, c := range cs {
		part[i] = make([]bool, len(cs))
		for k, d := range cs {
			got := subsumes(c, d)
			if !got.same(plainSubsumes(c, d)) {
				t.Errorf("P14.1: Subsumes(%q, %q) is %v", told(rules(c)), told(rules(d)), got)
			}
			if part[i][k] = got.yes; got.yes {
				below[i] = append(below[i], k)
			}
		}
		if !part[i][i] {
			t.Errorf("P14.5: %q doesn't subsume itself", told(rules(c)))
		}
	}
	chains := 0
	for i := range cs {
		for _, k := range below[i] {
			for _, n := range below[k] {
				chains += count(i != k && k != n)
				if !part[i][n] {
					t.Errorf("P14.5: %q doesn't subsume %q, which %q does", told(cs[i:i+1]), told(cs[n:n+1]), told(cs[k:k+1]))
				}
			}
		}
	}
	if len(cs) < 400 || chains < 10000 {
		t.Errorf("too few: %d clauses, %d chains", len(cs), chains)
	}
}

// TestAnOrderByChance: of clauses with more parts.
func TestAnOrderByChance(t *testing.T) {
	c := newChosen(18)
	for range 3000 {
		x := c.clause(4, 4)
		y := c.under(x, 4)
		wantSubsumed(t, "P14.5", x, x)
		wantSubsumed(t, "P14.5", y, y)
		wantSubsumed(t, "P14.5", x, y)
		if len(y.Body) > api.MaxBody-2 || len(y.Tests) > api.MaxTests-1 {
			continue
		}
		z := c.under(y, 4)
		wantSubsumed(t, "P14.5", y, z)
		wantSubsumed(t, "P14.5", x, z)
	}
}

// TestWhatItBecomes: by all values out of some constants and variables, numbered anew.
func TestWhatItBecomes(t *testing.T) {
	some := terms(num(1), a, ann, v(0), v(1), v(2), v(70))
	n := 0
	for _, c := range readAll(t, "p(V0) :- q(V0, V1).", "p :- e(V0, V1), e(V1, V2), V0 != V2.", "p(V0) :- V1 says q(V0), V0 < 2, V1 <= V0.", "ann says p :- V0 says q(V0, a, V1), r(V1).", "p(a) :- q, 2 < 1.") {
		for vals := range eachValues(some, len(variables(c))) {
			d := numberedAnew(instance(c, vals))
			if clause.Check(d) != api.OK {
				continue
			}
			n++
			wantSubsumed(t, "P14.5", c, d)
		}
	}
	if n < 400 {
		t.Errorf("just %d clauses", n)
	}
}

// TestFurtherParts: at every place of the body and of the tests, one and as many as there is room for.
func TestFurtherParts(t *testing.T) {
	atomsMore := atoms(q(), q(a), q(v(0)), q(v(50)), by(ann, q(v(50))), by(v(51), q(v(50))), atom("e", v(0), v(1)), p(a))
	testsMore := []api.Test{test(api.OpEq, a, a), test(api.OpLt, num(2), num(1)), test(api.OpNe, v(0), v(0)), test(api.OpLe, v(0), a)}
	for _, c := range readAll(t, "p(V0) :- q(V0).", "p :- e(V0, V1), e(V1, V0), V0 != V1.", "p(V0) :- V1 says q(V0), V0 < 2, V1 <= V0.") {
		for _, x := range atomsMore {
			for i := range len(c.Body) + 1 {
				d := c
				d.Body = slices.Insert(slices.Clone(c.Body), i, x)
				wantSubsumed(t, "P14.5", c, clause.Normal(d))
				d.Body = slices.Insert(slices.Clone(c.Body), i, nTimes(api.MaxBody-len(c.Body), x)...)
				wantSubsumed(t, "P14.5", c, clause.Normal(d))
			}
		}
		for _, x := range testsMore {
			for i := range len(c.Tests) + 1 {
				d := c
				d.Tests = slices.Insert(slices.Clone(c.Tests), i, nTimes(api.MaxTests-len(c.Tests), x)...)
				wantSubsumed(t, "P14.5", c, clause.Normal(d))
			}
		}
	}
}

// TestOrderAndDoubles: sets of 0 to 24 clauses, each in many orders.
func TestOrderAndDoubles(t *testing.T) {
	for size := range 25 {
		c := newChosen(int64(size))
		var cs []api.Clause
		for len(setOf(cs)) < size {
			cs = append(cs, c.family(3)...)
		}
		cs = setOf(cs)
		want, err := subsume.Reduce(cs)
		if err != api.OK {
			t.Fatal(err)
		}
		for range 20 {
			mixed := c.doubled(cs)
			if got, err := subsume.Reduce(mixed); !sameClauses(got, want) || err != api.OK {
				t.Errorf("P14.7: Reduce(%q) is %q, %d, in another order %q", told(mixed), told(got), err, told(want))
			}
		}
		slices.Reverse(cs)
		if got, err := subsume.Reduce(slices.Concat(cs, cs)); !sameClauses(got, want) || err != api.OK {
			t.Errorf("P14.7: Reduce(%q), backwards and twice, is %q, %d, want %q", told(cs), told(got), err, told(want))
		}
	}
}

// asked: what Reduce answers of a list, Condense of each of its clauses, and Subsumes of all pairs.
type asked struct {
	cs   []api.Clause
	vals []answer
	left []api.Clause
	err  api.Errno
	less []api.Clause
	errs []api.Errno
}

func ask(cs []api.Clause) asked {
	x := asked{cs: cs}
	x.left, x.err = subsume.Reduce(cs)
	for _, c := range cs {
		less, err := subsume.Condense(c)
		x.less, x.errs = append(x.less, less), append(x.errs, err)
		for _, d := range cs {
			x.vals = append(x.vals, subsumes(c, d))
		}
	}
	return x
}

func (x asked) same(y asked) bool {
	return slices.EqualFunc(x.vals, y.vals, answer.same) && sameClauses(x.left, y.left) && sameClauses(x.less, y.less) && x.err == y.err && slices.Equal(x.errs, y.errs)
}

// TestAtOneTime: asked by several, of the same clauses and of others; and again, whatever was asked between.
func TestAtOneTime(t *testing.T) {
	var want []asked
	for seed := range int64(20) {
		want = append(want, ask(newChosen(seed).family(6)))
	}
	want = append(want, ask(clausesOf(refusals())))
	var all sync.WaitGroup
	for first := range 8 {
		all.Go(func() {
			for i := range want {
				x := want[(first/2+i)%len(want)]
				if !ask(x.cs).same(x) {
					t.Errorf("R4: other answers of %q, asked by several", told(x.cs))
				}
			}
		})
	}
	all.Wait()
}
