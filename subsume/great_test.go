package subsume_test

import (
	"slices"
	"testing"

	"hearsay/api"
	"hearsay/subsume"
)

// Every call ends: clauses at the limits, and searches with as many ways as there can be.

// each: n things, by their numbers.
func each[T any](n int, of func(i int) T) []T {
	var l []T
	for i := range n {
		l = append(l, of(i))
	}
	return l
}

// wide: the clause with the most variables, all different.
func wide() api.Clause {
	return rule(p(), each(8, func(i int) api.Atom {
		return api.Atom{By: v(9 * i), Name: long(32), Args: each(8, func(k int) api.Term { return v(9*i + k + 1) })}
	})...)
}

// fixedWide: the same without variables: said by 8 different ones, the last argument the longest text.
func fixedWide() api.Clause {
	return rule(p(), each(8, func(i int) api.Atom {
		return api.Atom{By: txt("who" + string(rune('0'+7-i))), Name: long(32), Args: append(each(7, func(k int) api.Term { return num(7 - i) }), txt(long(64)))}
	})...)
}

// wideTests: one for each of these pairs of wide's qualifiers.
func wideTests(op int, pairs ...[2]int) []api.Test {
	return each(len(pairs), func(i int) api.Test { return test(op, v(9*pairs[i][0]), v(9*pairs[i][1])) })
}

// chain: each number with the next one.
func chain(n int) [][2]int { return each(n, func(i int) [2]int { return [2]int{i, i + 1} }) }

// allWith7: each number up to 6 with 7, and turned about.
func allWith7(turned bool) [][2]int {
	return each(7, func(i int) [2]int {
		if turned {
			return [2]int{7, i}
		}
		return [2]int{i, 7}
	})
}

// wantVals: as these clauses are long, they aren't told.
func wantVals(t *testing.T, c, d api.Clause, want []api.Term) {
	t.Helper()
	if got := subsumes(c, d); !got.same(answer{want, true}) {
		t.Errorf("P14.1: the values are [%s], %v, want [%s]", toldTerms(got.vals), got.yes, toldTerms(want))
	}
}

func wantNoVals(t *testing.T, c, d api.Clause) {
	t.Helper()
	if got := subsumes(c, d); !got.same(answer{}) {
		t.Errorf("P14.1: the values are [%s], %v, want none", toldTerms(got.vals), got.yes)
	}
}

func columnsOf(l []api.Atom) []api.Term { return standing(l, nil) }

func TestTheGreatestClauses(t *testing.T) {
	c, d := wide(), fixedWide()
	wantVals(t, c, c, slices.Repeat(columns(c.Body[0]), 8))
	wantVals(t, c, d, slices.Repeat(columns(d.Body[7]), 8))
	wantNoVals(t, d, c)
	wantVals(t, d, d, nil)
	rising := inOrder(d.Body, compareAtoms)
	// Just one way of 8^8.
	wantVals(t, with(c, wideTests(api.OpLt, chain(7)...)...), d, columnsOf(rising))
	falling := slices.Clone(rising)
	slices.Reverse(falling)
	var back [][2]int
	for _, x := range chain(7) {
		back = append(back, [2]int{x[1], x[0]})
	}
	wantVals(t, with(c, wideTests(api.OpLt, back...)...), d, columnsOf(falling))
	// None of 8^8.
	ring := append(chain(7), [2]int{7, 0})
	wantNoVals(t, with(c, wideTests(api.OpLt, ring...)...), d)
	wantVals(t, with(c, wideTests(api.OpLe, ring...)...), d, slices.Repeat(columns(rising[0]), 8))
	wantNoVals(t, with(c, append(wideTests(api.OpLt, allWith7(false)...), test(api.OpLt, v(63), txt("who0")))...), d)
	wantNoVals(t, with(c, append(wideTests(api.OpLt, allWith7(true)...), wideTests(api.OpLt, [2]int{6, 7})...)...), d)
	wantNoVals(t, with(c, test(api.OpLt, v(71), a)), d)
	wantNoVals(t, with(c, test(api.OpEq, v(0), v(71))), d)
	// With the tests of the other.
	all := with(c, wideTests(api.OpNe, ring...)...)
	wantVals(t, all, all, each(72, v))
}

// TestTheLastAtomJoinsAll: seven atoms that have nothing to do with one another, and one that joins all of them.
func TestTheLastAtomJoinsAll(t *testing.T) {
	c := rule(p(), each(7, func(i int) api.Atom {
		return q(append(each(7, func(k int) api.Term { return v(8*i + k) }), v(8*i+7))...)
	})...)
	c.Body = append(c.Body, q(append(each(7, func(i int) api.Term { return v(8*i + 7) }), v(56))...))
	ends := each(7, func(i int) api.Atom { return q(append(nTimes(7, num(i)), txt("z"))...) })
	last := q(append(nTimes(6, txt("z")), num(5), txt("y"))...)
	wantNoVals(t, c, rule(p(), append(ends, last)...))
	last.Args[6] = txt("z")
	want := append(slices.Repeat(columns(ends[0])[1:], 7), txt("y"))
	wantVals(t, c, rule(p(), append(ends, last)...), want)
}

func TestCondenseTheGreatest(t *testing.T) {
	first := rule(p(), wide().Body[0])
	if got, err := subsume.Condense(wide()); !sameClause(got, first) || err != api.OK {
		t.Errorf("P14.3: Condense of the clause with the most variables has %d atoms, %d", len(got.Body), err)
	}
	stay := rules(fixedWide(), with(wide(), wideTests(api.OpLt, chain(7)...)...), with(fixedWide(), nTimes(8, test(api.OpLt, num(2), num(1)))...))
	for i, c := range stay {
		want := c
		if i == 2 {
			want.Tests = c.Tests[:1]
		}
		if got, err := subsume.Condense(c); !sameClause(got, want) || err != api.OK {
			t.Errorf("P14.3: Condense of the great clause %d has %d atoms and %d tests, %d", i, len(got.Body), len(got.Tests), err)
		}
	}
	ring := func(n int) []api.Atom {
		return each(n, func(i int) api.Atom { return atom("e", v(i), v((i+1)%n)) })
	}
	for n := 1; n <= 8; n++ {
		c := rule(p(), ring(n)...)
		if got, _ := subsume.Condense(c); !sameClause(got, c) {
			t.Errorf("P14.3: a ring of %d becomes %q", n, told(rules(got)))
		}
		if n < 8 {
			c.Body = append(c.Body, atom("e", v(n), v(n)))
			if got, _ := subsume.Condense(c); !sameClause(got, rule(p(), atom("e", v(0), v(0)))) {
				t.Errorf("P14.3: a ring of %d with one of 1 becomes %q", n, told(rules(got)))
			}
		}
	}
}

// TestReduceTheGreatest: one clause in many orders of its body, and what it subsumes.
func TestReduceTheGreatest(t *testing.T) {
	c := newChosen(5)
	var cs []api.Clause
	for range 40 {
		cs = append(cs, numberedAnew(c.turned(with(wide(), wideTests(api.OpLt, chain(7)...)...))))
	}
	want := setOf(cs)[:1]
	for range 40 {
		cs = append(cs, c.turned(fixedWide()))
	}
	if got, err := subsume.Reduce(c.mixed(cs)); !sameClauses(got, want) || err != api.OK {
		t.Errorf("P14.2: %d clauses are left, %d", len(got), err)
	}
}
