package imply_test

import (
	"fmt"
	"slices"
	"testing"

	"hearsay/api"
	"hearsay/imply"
	"hearsay/term"
)

// P15.1: Freeze.

func TestFreeze(t *testing.T) {
	for _, x := range []struct {
		c    string
		want []string
	}{
		// Without a body.
		{"p.", texts("p")},
		{"ann says p(a, 1, \"\").", texts("ann says p(a, 1, \"\")")},
		// Without variables.
		{"p(a) :- q(b), ann says r.", texts("q(b)", "ann says r", "p(a)")},
		// A variable in several places.
		{"p(V0, V0) :- q(V0), e(V0, V1), e(V1, V0), r(V1, V1, V2).", texts("q(f0)", "e(f0, f1)", "e(f1, f0)", "r(f1, f1, f2)", "p(f0, f0)")},
		// As a qualifier, and as an argument too.
		{"p :- V0 says q.", texts("f0 says q", "p")},
		{"ann says p(V0) :- V0 says q(V0), V1 says q(V0), V0 says q(V1).", texts("f0 says q(f0)", "f1 says q(f0)", "f0 says q(f1)", "ann says p(f0)")},
		{"p(V0, V1) :- V1 says q(V0), V0 says q(V1).", texts("f1 says q(f0)", "f0 says q(f1)", "p(f0, f1)")},
		// Doubled body atoms stay, and the body's order is kept.
		{"p :- q, q, q.", texts("q", "q", "q", "p")},
		{"p(V0) :- r(V0), q(V0), r(V0), q(V1), q(V0).", texts("r(f0)", "q(f0)", "r(f0)", "q(f1)", "q(f0)", "p(f0)")},
		// A head that is one of its body.
		{"p(V0) :- p(V0).", texts("p(f0)", "p(f0)")},
		// Constants f0 and the like in the clause itself.
		{"p(V0, f0) :- q(V0).", texts("q(f1)", "p(f1, f0)")},
		{"p(V0) :- q(V0, V1), r(f0, f2).", texts("q(f1, f3)", "r(f0, f2)", "p(f1)")},
		{"f0 says p(V0) :- f1 says q(V0), V1 says q(V0).", texts("f1 says q(f2)", "f3 says q(f2)", "f0 says p(f2)")},
		{"p(V0) :- q(V0, f1, f1), f1 says q(V1).", texts("q(f0, f1, f1)", "f1 says q(f2)", "p(f0)")},
		// As a number or a predicate's name they take no text away.
		{"f0(V0, 0) :- f1(V0, V1), f0(V0), f1(1, 10).", texts("f1(f0, f1)", "f0(f0)", "f1(1, 10)", "f0(f0, 0)")},
		// Texts that are other ones.
		{"p(V0, \"\", f, f00, f01, \"f 0\", \"F0\", \"0\") :- q(V0, V1, \"f-1\", \"f+0\", \"f0 \", \" f0\", \"f0.0\", ff0).", texts("q(f0, f1, \"f-1\", \"f+0\", \"f0 \", \" f0\", \"f0.0\", ff0)", "p(f0, \"\", f, f00, f01, \"f 0\", \"F0\", \"0\")")},
		{"p(V0) :- q(V0, \"f0\\x00\"), q(f0x, f0_).", texts("q(f0, \"f0\\x00\")", "q(f0x, f0_)", "p(f0)")},
	} {
		c := read(t, x.c)
		wantFrozen(t, nil, c, x.want...)
		wantFrozen(t, rules(), c, x.want...)
		wantFrozen(t, rules(c), c, x.want...) // the clause itself takes nothing more away
	}
}

// TestFreezeBesideClauses: constants f0 and the like in cs alone.
func TestFreezeBesideClauses(t *testing.T) {
	c := read(t, "p(V0, V1) :- q(V0, V2), V2 says q(V1, a).")
	free := texts("q(f0, f2)", "f2 says q(f1, a)", "p(f0, f1)")
	for _, x := range []struct{ cs, want []string }{
		{texts("p(f0)."), texts("q(f1, f3)", "f3 says q(f2, a)", "p(f1, f2)")},
		{texts("f0 says p."), texts("q(f1, f3)", "f3 says q(f2, a)", "p(f1, f2)")},
		{texts("p :- q(f0)."), texts("q(f1, f3)", "f3 says q(f2, a)", "p(f1, f2)")},
		{texts("p :- f0 says q."), texts("q(f1, f3)", "f3 says q(f2, a)", "p(f1, f2)")},
		{texts("p(V0) :- q(V0), q(V0, a, f0)."), texts("q(f1, f3)", "f3 says q(f2, a)", "p(f1, f2)")},
		{texts("p(f1)."), texts("q(f0, f3)", "f3 says q(f2, a)", "p(f0, f2)")},
		{texts("p(f2)."), texts("q(f0, f3)", "f3 says q(f1, a)", "p(f0, f1)")},
		{texts("p(f3)."), free},
		{texts("p(f10)."), free},
		{texts("p(f00).", "p(f01).", "p(f).", "p(\"\").", "p(\"f0 \")."), free},
		{texts("f0.", "f1(a) :- f2(a).", "p(0).", "p(1) :- q(2)."), free},
		{texts("p(f2).", "p(f0)."), texts("q(f1, f4)", "f4 says q(f3, a)", "p(f1, f3)")},
		{texts("p(f0).", "f1 says p.", "p :- f2 says q(f3).", "p(f0)."), texts("q(f4, f6)", "f6 says q(f5, a)", "p(f4, f5)")},
		{texts("p(f1, f2, f3, f4).", "p(f6).", "p(f5)."), texts("q(f0, f8)", "f8 says q(f7, a)", "p(f0, f7)")},
	} {
		cs := readAll(t, x.cs...)
		wantFrozen(t, cs, c, x.want...)
		slices.Reverse(cs)
		wantFrozen(t, slices.Concat(cs, cs), c, x.want...)
	}
	// Some in cs, others in the clause.
	wantFrozen(t, readAll(t, "p(f1).", "f4 says p."), read(t, "p(V0, f0) :- q(V0, V1), f3 says q(V2)."), "q(f2, f5)", "f3 says q(f6)", "p(f2, f0)")
}

// widest: as many variables as a clause can have: each body atom has nine.
func widest() api.Clause {
	c := rule(p())
	for i := range api.MaxBody {
		x := by(v(9*i), q())
		for k := range api.MaxArity {
			x.Args = append(x.Args, v(9*i+1+k))
		}
		c.Body = append(c.Body, x)
	}
	return c
}

// TestFreezeManyVariables: 72 of them, by numbers of one, two and three digits, in the order of the numbers (not of the texts).
func TestFreezeManyVariables(t *testing.T) {
	for _, taken := range [][]int{nil, {0}, {9}, {10}, {71}, {72}, {7, 8, 9, 10, 11}, {70, 71, 72, 73}, {99, 100, 101}} {
		var cs []api.Clause
		for _, n := range taken {
			cs = append(cs, rule(p(txt(fmt.Sprintf("f%d", n)))))
		}
		body, head, err := imply.Freeze(cs, widest())
		if err != api.OK || !sameAtom(head, p()) || len(body) != api.MaxBody {
			t.Fatalf("P15.1: %v, %v, %d", body, head, err)
		}
		n := 0
		for i, got := range standing(body) {
			for slices.Contains(taken, n) {
				n++
			}
			if want := txt(fmt.Sprintf("f%d", n)); got != want {
				t.Errorf("P15.1: with %v taken the variable %d is frozen to %v, not %v", taken, i, got, want)
			}
			n++
		}
	}
	// All of f0 to f1999 but two are taken.
	var cs []api.Clause
	for n := range 2000 {
		if n != 5 && n != 999 {
			cs = append(cs, rule(p(txt(fmt.Sprintf("f%d", n)))))
		}
	}
	wantFrozen(t, cs, read(t, "p(V0) :- q(V0, V1, V2, V3)."), "q(f5, f999, f2000, f2001)", "p(f5)")
}

// TestFreezeByChance: beside the plain version; all of it facts.
func TestFreezeByChance(t *testing.T) {
	taken := 0
	for seed := range int64(3000) {
		c := newChosen(seed)
		cs, x := c.question()
		body, head := plainFreeze(cs, x)
		wantFrozen(t, cs, x, toldAtoms(append(slices.Clone(body), head))...)
		got, top, _ := imply.Freeze(cs, x)
		if !same(got, body) || !sameAtom(top, head) {
			t.Errorf("P15.1: Freeze(%q, %q) is %v, %v", told(cs), told(rules(x)), got, top)
		}
		if slices.ContainsFunc(append(got, top), func(f api.Atom) bool { return !term.Fact(f) }) {
			t.Errorf("P15.1: of %q and %q not all are facts: %v, %v", told(cs), told(rules(x)), got, top)
		}
		vars := len(variables(atomsOf(x)))
		taken += count(vars > 0 && !slices.Equal(fresh(nil, vars), fresh(append(cs, x), vars)))
	}
	if taken < 300 {
		t.Errorf("too much alike: %d times a text is taken", taken)
	}
}

// TestFreezeHasNoLimit: more clauses than an evaluation takes.
func TestFreezeHasNoLimit(t *testing.T) {
	wantFrozen(t, numbered("n", 0, 3000), read(t, "p(V0) :- n(V0)."), "n(f0)", "p(f0)")
}
