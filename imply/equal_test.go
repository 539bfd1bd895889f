package imply_test

import (
	"slices"
	"testing"

	"hearsay/api"
	"hearsay/imply"
)

// P15.6: Equal.

// wantEqualBoth: both ways round.
func wantEqualBoth(t *testing.T, as, bs []api.Clause, want bool) {
	t.Helper()
	wantEqual(t, as, bs, want)
	wantEqual(t, bs, as, want)
}

func TestEqual(t *testing.T) {
	for _, x := range []struct {
		as, bs []string
		want   bool
	}{
		{nil, nil, true},
		{nil, texts("p :- p."), true},
		{nil, texts("p."), false},
		{nil, texts("p :- q."), false},
		{texts("p."), texts("p."), true},
		{texts("p."), texts("q."), false},
		{texts("p."), texts("p.", "q."), false},
		{texts("p."), texts("p.", "p :- q."), true},
		{texts("p."), texts("p :- q."), false},
		{texts("p."), texts("p :- q.", "q."), false},
		{texts("p.", "q."), texts("p :- q.", "q."), true},
		{texts("p.", "q."), texts("p :- q.", "q :- p."), false},
		{texts("p :- q."), texts("p :- q, q."), true},
		{texts("p :- q, r."), texts("p :- r, q."), true},
		{texts("p(V0) :- q(V0)."), texts("p(V0) :- q(V0), q(V1)."), true},
		{texts("p(V0) :- q(V0)."), texts("p(V0) :- q(V0), r(V1)."), false},
		{texts("p(V0) :- q(V0)."), texts("p(a) :- q(a)."), false},
		{texts("p(V0) :- q(V0).", "p(a) :- q(a)."), texts("p(V0) :- q(V0)."), true},
		{texts(t1, t3), texts(t1, t2, t3), true},
		{texts(t1, t3), texts(t1, t2, t3, t4), true},
		{texts(t1, t2), texts(t1, t3), false},
		{texts(t1, t2), texts(t1, t4), false},
		{texts("a :- b.", "b :- c.", "c :- a."), texts("a :- c.", "c :- b.", "b :- a."), true},
		{texts("p :- V0 says q."), texts("p :- ann says q."), false},
		{texts("p :- V0 says q.", "p :- q."), texts("p :- V0 says q."), false},
		{texts("p(f0)."), texts("p(f1)."), false},
		{texts("p(V0) :- q(V0, f0)."), texts("p(V0) :- q(V0, f1)."), false},
	} {
		as, bs := readAll(t, x.as...), readAll(t, x.bs...)
		wantEqualBoth(t, as, bs, x.want)
		wantEqualBoth(t, slices.Concat(as, as), slices.Concat(bs, bs, bs), x.want)
		if plainEqual(as, bs) != x.want {
			t.Errorf("the plain version doesn't say %v of %q and %q", x.want, x.as, x.bs)
		}
	}
}

// TestEqualByChance: families, their parts and what has gone through a change; over facts too.
func TestEqualByChance(t *testing.T) {
	yes, no := 0, 0
	for seed := range int64(500) {
		c := newChosen(seed)
		as := c.family(2 + int(seed%6))
		bs := c.mixed(as)
		for range 1 + c.Intn(2) {
			at := c.Intn(len(bs))
			bs = one(c, allBut(bs, at), plus(bs, c.under(bs[at], 3)), plus(allBut(bs, at), c.spoilt(bs[at])), plus(bs, c.joined(bs[at], one(c, bs...))))
			if len(bs) == 0 {
				break
			}
		}
		if slices.ContainsFunc(bs, func(x api.Clause) bool { return len(variables(atomsOf(x))) > 3 }) {
			continue
		}
		want := plainEqual(as, bs)
		wantEqualBoth(t, as, bs, want)
		yes, no = yes+count(want), no+count(!want)
		for range 3 {
			if want {
				wantSameModel(t, "P15.6", as, bs, c.facts())
			}
		}
	}
	if yes < 150 || no < 100 {
		t.Errorf("too much alike: %d are equal, %d aren't", yes, no)
	}
}

// TestAllSmallEquals: all pairs of parts of a list whose clauses hang together: equal ones have one least model over every set of facts, others don't.
func TestAllSmallEquals(t *testing.T) {
	l := readAll(t, "p.", "p :- q.", "q :- p.", "p :- r.", "q :- r.", "q.")
	var facts [][]api.Clause
	for bits := range 8 {
		var d []api.Clause
		for i, s := range texts("p.", "q.", "r.") {
			if bits>>i&1 == 1 {
				d = append(d, read(t, s))
			}
		}
		facts = append(facts, d)
	}
	var sets [][]api.Clause
	var models [][][]api.Atom // of each set over all sets of facts
	for bits := range 1 << len(l) {
		var cs []api.Clause
		for i, c := range l {
			if bits>>i&1 == 1 {
				cs = append(cs, c)
			}
		}
		var over [][]api.Atom
		for _, d := range facts {
			over = append(over, model(t, slices.Concat(cs, d)))
		}
		sets, models = append(sets, cs), append(models, over)
	}
	yes := 0
	for i, as := range sets {
		for k, bs := range sets {
			want := slices.EqualFunc(models[i], models[k], same)
			yes += count(want)
			wantEqual(t, as, bs, want)
		}
	}
	if yes < 100 {
		t.Errorf("just %d are equal", yes)
	}
}

// TestEqualErrorsOnTheWay: the first error ahead of a later false, false ahead of a later error; those of bs first, in order.
func TestEqualErrorsOnTheWay(t *testing.T) {
	full, ds := fours(t, 8), numbered("d", 0, 8)
	tooMuch := read(t, "m :- d(V0).") // its frozen body is the ninth d
	before, between, behind := read(t, "a."), read(t, "e."), read(t, "z.")
	for _, bs := range [][]api.Clause{rules(tooMuch), rules(behind, tooMuch), plus(ds, tooMuch, behind), plus(ds, behind, tooMuch)} {
		wantEqualErr(t, full, bs, api.ErrFacts)
	}
	for _, bs := range [][]api.Clause{rules(tooMuch, before), rules(between, tooMuch), plus(ds, tooMuch, between), plus(ds, behind, tooMuch, before), plus(full, before, tooMuch)} {
		wantEqual(t, full, bs, false)
	}
}

// TestEqualErrorsOnTheWayBack: all of bs are implied, and bs are refused when they are asked for those of as; or for one of as they are false ahead of that.
func TestEqualErrorsOnTheWayBack(t *testing.T) {
	t.Parallel()
	before, behind := read(t, "a."), read(t, "z.")
	// Three d more are 17^3 facts, four more are 18^3.
	cubes := append(numbered("d", 0, 14), read(t, "cube(V0, V1, V2) :- d(V0), d(V1), d(V2)."))
	tooMuch := read(t, "b :- d(V0), d(V1), d(V2), d(V3).")
	wantEqual(t, cubes, cubes, true)
	wantEqualErr(t, plus(cubes, tooMuch), cubes, api.ErrFacts)
	wantEqualErr(t, plus(cubes, tooMuch, behind), cubes, api.ErrFacts)
	wantEqual(t, plus(cubes, tooMuch, before), cubes, false)
	// Each clause of great is implied by k; but they are 1000, and m's frozen body is one more.
	small, great := readAll(t, "k.", "m :- d(V0)."), readAll(t, "k.")
	for i := range 999 {
		great = append(great, rule(atom("k"), atom("n", num(i))))
	}
	wantEqualErr(t, small, great, api.ErrMany)
	wantEqual(t, small, great[:999], false)
	wantEqualErr(t, plus(small, behind), great, api.ErrMany)
	wantEqual(t, plus(small, before), great, false)
	// The other way round m is asked first.
	wantEqualErr(t, great, small, api.ErrMany)
	wantEqual(t, great, plus(small, before), false)
}

// TestEqualOfTooMany: more clauses than an evaluation takes are refused only if they are asked to imply something.
func TestEqualOfTooMany(t *testing.T) {
	t.Parallel()
	over := numbered("n", 0, 1001)
	wantEqual(t, over, nil, false)
	wantEqual(t, nil, over, false)
	wantEqualErr(t, over, over[:1], api.ErrMany)
	wantEqual(t, over[:1], over, false)
	wantEqualErr(t, over, over, api.ErrMany)
	var idle []api.Clause
	for i := range 1001 {
		x := atom("n", num(i))
		idle = append(idle, rule(x, x))
	}
	wantEqual(t, nil, idle, true)
	wantEqual(t, idle, nil, true)
	wantEqualErr(t, idle, idle[:1], api.ErrMany)
	wantEqualErr(t, idle[:1], idle, api.ErrMany) // each of idle is implied; the way back is refused
	if yes, err := imply.Equal(idle[:999], idle[:500]); !yes || err != api.OK {
		t.Errorf("P15.6: %v, %d", yes, err)
	}
}
