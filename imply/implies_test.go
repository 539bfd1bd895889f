package imply_test

import (
	"slices"
	"testing"

	"hearsay/api"
	"hearsay/eval"
	"hearsay/imply"
)

// P15.2: Implies.

// question: clauses, another one, and whether they imply it.
type question struct {
	cs   []string
	c    string
	want bool
}

func wantAnswered(t *testing.T, l []question) {
	t.Helper()
	for _, x := range l {
		cs, c := readAll(t, x.cs...), read(t, x.c)
		wantImplied(t, cs, c, x.want)
		if plainImplies(cs, c) != x.want {
			t.Errorf("the plain version doesn't say %v of %q and %q", x.want, x.cs, x.c)
		}
	}
}

func TestImpliesOfFew(t *testing.T) {
	wantAnswered(t, []question{
		{nil, "p.", false},
		{nil, "p :- q.", false},
		{nil, "p :- p.", true},
		{nil, "p(V0) :- p(V0).", true},
		{nil, "p(V0) :- p(V0), q(V1).", true},
		{nil, "p(V0) :- q(V0), q(V1), p(V0).", true},
		{nil, "p(V0) :- p(V1), q(V0).", false},
		{nil, "p(a) :- p(V0).", false},
		{nil, "p(a) :- p(a).", true},
		{nil, "ann says p :- ann says p.", true},
		{nil, "ann says p :- p.", false},
		{nil, "ann says p :- V0 says p.", false},
		{nil, "p :- V0 says p.", false},
		{texts("q."), "p.", false},
		{texts("p(a)."), "p(b).", false},
		{texts("p(a)."), "p(a, a).", false},
		{texts("p(1)."), "p(\"1\").", false},
		{texts("p(a)."), "ann says p(a).", false},
		{texts("ann says p(a)."), "p(a).", false},
		{texts("p(a)."), "p(a) :- q.", true},
		{texts("p(a)."), "p(V0) :- q(V0).", false},
		{texts("p(a)."), "p(V0) :- q(V0), p(V1).", false},
		{texts("p."), "p :- q(V0), V1 says q(V0).", true},
	})
}

// TestImpliesAcrossRounds: what follows only by several clauses, over several rounds.
func TestImpliesAcrossRounds(t *testing.T) {
	wantAnswered(t, []question{
		{texts("p :- q.", "q :- r."), "p :- r.", true},
		{texts("p :- q.", "q :- r.", "r :- s.", "s :- t."), "p :- t.", true},
		{texts("p :- q.", "q :- r.", "s :- t."), "p :- t.", false},
		{texts("p(V0) :- q(V0), r(V0).", "q(V0) :- e(V0, V1).", "r(V0) :- e(V1, V0)."), "p(V0) :- e(V0, V0).", true},
		{texts("p(V0) :- q(V0), r(V0).", "q(V0) :- e(V0, V1).", "r(V0) :- e(V1, V0)."), "p(V0) :- e(V0, V1), e(V1, V0).", true},
		{texts("p(V0) :- q(V0), r(V0).", "q(V0) :- e(V0, V1).", "r(V0) :- e(V1, V0)."), "p(V0) :- e(V0, V1), e(V1, V1).", false},
		{texts("p(V0) :- q(V0), k(a).", "k(a)."), "p(V0) :- q(V0).", true},
		{texts("p(V0) :- q(V0), k(a).", "k(b)."), "p(V0) :- q(V0).", false},
		{texts("p(V0) :- q(V0), k(a)."), "p(V0) :- q(V0), k(V1).", false},
		{texts("k(a).", "p :- k(V0)."), "p.", true},
		{texts("ann says p(V0) :- V1 says q(V0).", "bob says q(V0) :- r(V0)."), "ann says p(V0) :- r(V0).", true},
		{texts("ann says p(V0) :- V1 says q(V0).", "q(V0) :- r(V0)."), "ann says p(V0) :- r(V0).", false},
		{texts("p(V0) :- V0 says q(V1).", "ann says q(V0) :- r(V0)."), "p(ann) :- r(V0).", true},
		{texts("p(V0) :- V0 says q(V1).", "ann says q(V0) :- r(V0)."), "p(V0) :- r(V0).", false},
	})
}

// TestImpliesOverAllFacts: what follows over facts of one predicate, but not over all.
func TestImpliesOverAllFacts(t *testing.T) {
	wantAnswered(t, []question{
		{texts(t1, t2), t3, false},
		{texts(t1, t2), t4, false},
		{texts(t1, t4), t2, false},
		{texts(t1, t4), t3, false},
		{texts(t1, t2, t4), t3, false},
		// q follows from e alone, as long as no fact of q is there.
		{texts("q(V0) :- e(V0, V1).", "p(V0) :- e(V0, V1)."), "p(V0) :- q(V0).", false},
		{texts("p(V0) :- q(V0)."), "p(V0) :- r(V0).", false},
	})
	// Where q and path have no facts of their own, nothing is added.
	edges := readAll(t, "e(a, b).", "e(b, c).", "e(c, a).", "edge(a, b).", "edge(b, a).", "edge(b, c).")
	for _, l := range [][]string{{t1, t2, t3}, {t1, t2, t4}, {t1, t4, t2}, {"q(V0) :- e(V0, V1).", "p(V0) :- e(V0, V1).", "p(V0) :- q(V0)."}} {
		cs := readAll(t, l...)
		wantSameModel(t, "the list", cs, cs[:2], edges)
	}
}

// TestImpliesOfRecursion: recursive clauses, on either side.
func TestImpliesOfRecursion(t *testing.T) {
	three := "path(V0, V1) :- path(V0, V2), path(V2, V3), path(V3, V1)."
	eight := "path(V0, V1) :- path(V0, V2), path(V2, V3), path(V3, V4), path(V4, V5), path(V5, V6), path(V6, V7), path(V7, V8), path(V8, V1)."
	wantImplied(t, readAll(t, t3), read(t, eight), true)
	wantImplied(t, readAll(t, three), read(t, eight), false) // it makes one of three, five, seven
	wantAnswered(t, []question{
		{texts(t1, t3), t2, true},
		{texts(t1, t3), t4, true},
		{texts(t3), three, true},
		{texts(three), t3, false},
		{texts(t3), t2, false},
		{texts(t1, t2), "path(V0, V1) :- edge(V0, V2), edge(V2, V3), edge(V3, V1).", true},
		{texts(t2), "path(V0, V1) :- edge(V0, V2), edge(V2, V3), path(V3, V1).", true},
		{texts("path(V0, V1) :- path(V1, V0)."), "path(V0, V1) :- path(V0, V1).", true},
		{texts("path(V0, V1) :- path(V1, V0).", t3), "path(V0, V0) :- path(V0, V1).", true},
		{texts("path(V0, V1) :- path(V1, V0).", t3), "path(V0, V0) :- path(V1, V2), path(V0, V0).", true},
		{texts("path(V0, V1) :- path(V1, V0)."), "path(V0, V0) :- path(V0, V1).", false},
		{texts("p(V0, V1, V2) :- p(V1, V2, V0)."), "p(V0, V1, V2) :- p(V2, V0, V1).", true},
		{texts("p(V0, V1, V2) :- p(V1, V2, V0)."), "p(V0, V1, V2) :- p(V1, V0, V2).", false},
	})
}

// TestImpliesOfQualifiers: a variable as a qualifier stands for principals alone.
func TestImpliesOfQualifiers(t *testing.T) {
	wantAnswered(t, []question{
		{texts("p(V0) :- V1 says q(V0)."), "p(V0) :- ann says q(V0).", true},
		{texts("p(V0) :- V1 says q(V0)."), "p(V0) :- q(V0).", false},
		{texts("p(V0) :- V1 says q(V0)."), "p(V0) :- V0 says q(V0).", true},
		{texts("p(V0) :- V1 says q(V0)."), "p(V0) :- V1 says q(V0), q(V1).", true},
		{texts("p(V0) :- V0 says q(V0)."), "p(V0) :- V1 says q(V0).", false},
		{texts("p(V0) :- ann says q(V0)."), "p(V0) :- V1 says q(V0).", false},
		{texts("p(V0) :- V0 says q."), "p(V0) :- V0 says q, V1 says q.", true},
		{texts("p(V0, V1) :- V0 says q, V1 says q."), "p(V0, V0) :- V0 says q.", true},
		{texts("ann says p(V0) :- p(V0)."), "ann says p(V0) :- bob says p(V0).", false},
		{texts("ann says p(V0) :- V1 says p(V0).", "p(V0) :- ann says p(V0)."), "p(V0) :- bob says p(V0).", true},
	})
}

// TestFrozenTextsInTheClauses: constants f0, f1 of the clauses aren't taken for frozen variables.
func TestFrozenTextsInTheClauses(t *testing.T) {
	wantAnswered(t, []question{
		{texts("p(f0) :- q(f0)."), "p(V0) :- q(V0).", false},
		{texts("p(f0) :- q(f0).", "p(f1) :- q(f1)."), "p(V0) :- q(V0).", false},
		{texts("p(f0)."), "p(V0) :- q(V0).", false},
		{texts("p :- f0 says q.", "p :- f1 says q."), "p :- V0 says q.", false},
		{texts("p(V0) :- q(V0)."), "p(V0) :- q(f0), r(V0).", false},
		{nil, "p(f0) :- p(V0).", false},
		{nil, "p(V0) :- p(f0), q(V0).", false},
		{nil, "f0 says p :- V0 says p.", false},
		{texts("p(V0) :- q(V0)."), "p(f0) :- q(f0).", true},
	})
}

// TestImpliesByChance: beside the plain version, and beside what Whole and Freeze say.
func TestImpliesByChance(t *testing.T) {
	yes, no, far := 0, 0, 0
	for seed := range int64(6000) {
		c := newChosen(seed)
		cs, x := c.question()
		want := plainImplies(cs, x)
		wantImplied(t, cs, x, want)
		if want != byFreeze(t, cs, x) {
			t.Errorf("P15.2: Whole says otherwise of %q and %q", told(cs), told(rules(x)))
		}
		yes, no = yes+count(want), no+count(!want)
		// No clause alone implies it.
		far += count(want && !plainImplies(nil, x) && !slices.ContainsFunc(cs, func(y api.Clause) bool { return plainImplies(rules(y), x) }))
	}
	if yes < 1000 || no < 1000 || far < 150 {
		t.Errorf("too much alike: %d implied, %d not, %d by several together", yes, no, far)
	}
}

// byFreeze: the promise's words.
func byFreeze(t *testing.T, cs []api.Clause, c api.Clause) bool {
	t.Helper()
	body, head, err := imply.Freeze(cs, c)
	if err != api.OK {
		t.Fatal(err)
	}
	m, err := eval.Whole(beside(cs, body))
	if err != api.OK {
		t.Fatal(err)
	}
	return slices.ContainsFunc(m.Facts, func(k api.Known) bool { return sameAtom(k.Fact, head) })
}

// TestAllSmallQuestions: each set of at most two of some clauses, and each of these clauses.
func TestAllSmallQuestions(t *testing.T) {
	l := readAll(t, "p(a).", "p(V0) :- q(V0).", "p(a) :- q(a).", "p(V0) :- q(V0), q(V1).", "p(V0) :- q(V0), p(V1).", "q(V0) :- p(V0).", "q(a) :- p(V0).", "q(V0) :- V1 says q(V0).", "ann says q(V0) :- q(V0).", "ann says q(V0) :- V1 says q(V0).", "q(V0) :- ann says q(V0).", "p(V0) :- V0 says q(V0).", "p(f0) :- q(f0).", "p(V0) :- p(V0).")
	sets := [][]api.Clause{nil}
	for i, x := range l {
		sets = append(sets, rules(x))
		for _, y := range l[:i] {
			sets = append(sets, rules(x, y))
		}
	}
	yes := 0
	for _, cs := range sets {
		for _, c := range l {
			want := plainImplies(cs, c)
			yes += count(want)
			wantImplied(t, cs, c, want)
		}
	}
	if yes < 300 {
		t.Errorf("just %d are implied", yes)
	}
}
