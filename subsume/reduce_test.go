package subsume_test

import (
	"slices"
	"testing"

	"hearsay/api"
	"hearsay/subsume"
)

// P14.2, P14.6: Reduce.

func TestReduceOfFew(t *testing.T) {
	wantReduced(t, nil)
	wantReduced(t, rules())
	for _, s := range texts("p.", "p :- p.", "ann says p(V0) :- V1 says q(V0), V0 != a.", "p :- q, q, 1 < 2, 1 < 2.", "p :- 2 < 1.") {
		wantReduced(t, readAll(t, s), s)
		wantReduced(t, readAll(t, s, s), s)
		wantReduced(t, readAll(t, s, s, s), s)
	}
}

// TestReduceLeavesWhatNoneSubsumes: other heads, other predicates, other qualifiers; in order.
func TestReduceLeavesWhatNoneSubsumes(t *testing.T) {
	stay := texts("p.", "ann says p.", "bob says p.", "p(1).", "p(\"1\").", "p(a) :- q.", "p(a) :- r.", "p(V0) :- q(V0).", "p(V0) :- V1 says q(V0).", "p(V0) :- q(V0, V1).", "q(V0) :- p(V0).", "q(V0) :- p(V0, V0).", "q(V0) :- r(V0), V0 != a.", "q(V0) :- r(V0), a != V0.")
	cs := readAll(t, stay...)
	want := told(setOf(cs))
	c := newChosen(2)
	for range 20 {
		wantReduced(t, c.doubled(cs), want...)
	}
}

func TestReduce(t *testing.T) {
	for _, x := range []struct{ list, want []string }{
		{texts("p.", "p :- q.", "p :- q, r.", "r."), texts("p.", "r.")},
		{texts("p(V0) :- q(V0).", "p(a) :- q(a).", "p(b) :- q(b), r.", "p(a) :- q(b)."), texts("p(a) :- q(b).", "p(V0) :- q(V0).")},
		{texts("p(V0) :- V1 says q(V0).", "p(V0) :- ann says q(V0).", "p(V0) :- q(V0).", "p(a) :- bob says q(a)."), texts("p(V0) :- q(V0).", "p(V0) :- V1 says q(V0).")},
		{texts("p(V0) :- q(V0), V0 != a.", "p(b) :- q(b).", "p(a) :- q(a).", "p(V0) :- q(V0), V0 != a, V0 < z."), texts("p(a) :- q(a).", "p(V0) :- q(V0), V0 != a.")},
		{texts("p :- 1 < 2.", "p :- q.", "p :- 2 < 1."), texts("p :- 1 < 2.")},
		{texts("p :- 2 < 1.", "p :- q."), texts("p :- 2 < 1.", "p :- q.")},
		// A chain: each subsumes all behind it.
		{texts("p :- e(V0, V1).", "p :- e(V0, V1), e(V1, V2).", "p :- e(V0, V1), e(V1, V2), e(V2, V3).", "p :- e(a, b)."), texts("p :- e(V0, V1).")},
		// A chain whose first stands last in the order.
		{texts("p :- e(a, a), q.", "p :- e(V0, V0).", "p :- e(V0, V1).", "p(a)."), texts("p :- e(V0, V1).", "p(a).")},
		// Several subsume one.
		{texts("p :- q.", "p :- r.", "p :- q, r."), texts("p :- q.", "p :- r.")},
		// The same but for the order of parts.
		{texts("p :- q, r.", "p :- r, q."), texts("p :- q, r.")},
		{texts("p :- q, 1 < 2, 3 < 4.", "p :- q, 3 < 4, 1 < 2."), texts("p :- q, 1 < 2, 3 < 4.")},
		{texts("p :- 1 < 2.", "p."), texts("p.")},
		{texts("p :- q, q.", "p :- q, q, q."), texts("p :- q, q.")},
		{texts("p :- q(V0), r(V1), q(V1).", "p :- q(V0), r(V0), q(V1)."), texts("p :- q(V0), r(V0), q(V1).")},
	} {
		wantReduced(t, readAll(t, x.list...), x.want...)
		if want := told(plainReduce(readAll(t, x.list...))); !slices.Equal(want, x.want) {
			t.Errorf("the plain version has %q, not %q", want, x.want)
		}
	}
}

// TestFromTheLastToTheFirst: lists whose clauses subsume one another, so that another way to go through them answers otherwise.
func TestFromTheLastToTheFirst(t *testing.T) {
	for _, x := range []struct{ list, want []string }{
		{texts("p(V0) :- q(V0).", "p(V0) :- q(V0), q(V1).", "p(a) :- q(a)."), texts("p(V0) :- q(V0).")},
		{texts("p :- q, r.", "p :- r, q."), texts("p :- q, r.")},
		{texts("p :- q.", "p :- q, q.", "p :- q, q, q."), texts("p :- q.")},
		{texts("p :- e(V0, V0).", "p :- e(V0, V1), e(V2, V2)."), texts("p :- e(V0, V0).")},
		{texts("p :- e(a, b), e(b, a).", "p :- e(b, a), e(a, b).", "p :- e(V0, b), e(b, V0), e(a, b), e(b, a)."), texts("p :- e(a, b), e(b, a).")},
		{texts("p(V0) :- q(V0), V0 != a.", "p(V0) :- q(V0), V0 != a, V0 != a.", "p(V0) :- q(V0), 1 < 2, V0 != a."), texts("p(V0) :- q(V0), V0 != a.")},
		{texts("p.", "p :- 1 < 2.", "p :- 1 = 1."), texts("p.")},
		{texts("p :- V0 says q, V1 says q.", "p :- V0 says q.", "p :- ann says q."), texts("p :- V0 says q.")},
	} {
		cs := readAll(t, x.list...)
		wantReduced(t, cs, x.want...)
		for i, other := range [][]api.Clause{reducedFromTheFirst(cs), reducedAgainstAll(cs)} {
			if slices.Equal(told(other), x.want) {
				t.Errorf("the list %q doesn't tell the other way %d from the right one", x.list, i)
			}
		}
	}
}

// leastError: that of the least of the clauses, by the plain order.
func leastError(l []refused) api.Errno {
	return slices.MinFunc(l, func(x, y refused) int { return compareClauses(x.c, y.c) }).err
}

func clausesOf(l []refused) []api.Clause {
	var cs []api.Clause
	for _, x := range l {
		cs = append(cs, x.c)
	}
	return cs
}

// TestReduceRefuses: each clause that isn't valid alone, ahead of, behind and amid valid ones, twice too, and beside one that would subsume it.
func TestReduceRefuses(t *testing.T) {
	ok := readAll(t, "a.", "p(V0) :- q(V0).", "p.", "z(9).")
	for _, x := range refusals() {
		wantReduceErr(t, rules(x.c), x.err)
		wantReduceErr(t, slices.Concat(ok, rules(x.c)), x.err)
		wantReduceErr(t, slices.Concat(rules(x.c), ok), x.err)
		wantReduceErr(t, slices.Concat(ok[:2], rules(x.c, x.c), ok[2:]), x.err)
	}
}

// TestTheLeastThatIsNotValid: of two, and of many.
func TestTheLeastThatIsNotValid(t *testing.T) {
	l := refusals()
	ok := readAll(t, "p.", "q(b).")
	for _, x := range l {
		for _, y := range l {
			wantReduceErr(t, slices.Concat(ok, rules(x.c, y.c)), leastError([]refused{x, y}))
		}
	}
	c := newChosen(1)
	for len(l) > 0 {
		for range 5 {
			wantReduceErr(t, c.doubled(slices.Concat(clausesOf(l), ok)), leastError(l))
		}
		l = allBut(l, c.Intn(len(l)))
	}
}

// TestReduceByChance: many sets beside the plain version, and P14.6 as it stands.
func TestReduceByChance(t *testing.T) {
	went, first, whole := 0, 0, 0
	for seed := range int64(600) {
		cs := newChosen(seed).family(2 + int(seed%9))
		want := plainReduce(cs)
		wantReduced(t, cs, told(want)...)
		got, _ := subsume.Reduce(cs)
		wantSmall(t, cs, got)
		went += len(setOf(cs)) - len(want)
		first += count(!sameClauses(want, reducedFromTheFirst(cs)))
		whole += count(!sameClauses(want, reducedAgainstAll(cs)))
	}
	if went < 900 || first < 80 || whole < 80 {
		t.Errorf("too much alike: %d clauses went, %d sets answer otherwise from the first on, %d against the whole set", went, first, whole)
	}
}

// wantSmall: P14.6 of a reduced list.
func wantSmall(t *testing.T, cs, got []api.Clause) {
	t.Helper()
	for i, c := range got {
		if oneSubsumes(allBut(got, i), c) {
			t.Errorf("P14.6: of %q another one subsumes %q", told(got), told(rules(c)))
		}
		if !hasClause(cs, c) {
			t.Errorf("P14.2: %q isn't among %q", told(rules(c)), told(cs))
		}
	}
	for _, c := range cs {
		if !oneSubsumes(got, c) {
			t.Errorf("P14.6: none of %q subsumes %q", told(got), told(rules(c)))
		}
	}
	if again, err := subsume.Reduce(got); !sameClauses(again, got) || err != api.OK {
		t.Errorf("P14.6: %q reduced again is %q, %d", told(got), told(again), err)
	}
}

// TestReduceHasNoLimit: more clauses than an evaluation takes.
func TestReduceHasNoLimit(t *testing.T) {
	var cs []api.Clause
	for i := range 1500 {
		cs = append(cs, rule(p(num(i))), rule(p(num(i)), q(num(i))))
	}
	c := newChosen(3)
	if got, err := subsume.Reduce(c.mixed(cs)); len(got) != 1500 || err != api.OK || slices.ContainsFunc(got, func(x api.Clause) bool { return len(x.Body) > 0 }) {
		t.Errorf("P14.2: %d clauses are left, %d", len(got), err)
	}
	one := append(cs, rule(p(v(0)), q(v(0))), rule(p(v(0)), q(v(0)), q(v(1))))
	if got, err := subsume.Reduce(c.mixed(one)); len(got) != 1501 || err != api.OK {
		t.Errorf("P14.2: %d clauses are left, %d", len(got), err)
	}
}
