package run_test

import (
	"fmt"
	"strings"
	"testing"

	"hearsay/api"
)

// P26.3: a query's answers and their derivations: of several lines, with four blanks ahead of each.

// someProofs: of two lines, of one, of three.
func someProofs(t *testing.T) []api.Proof {
	return []api.Proof{
		{Rules: clauses(t, "a says g(x). m(X) :- a says g(X)."), Steps: []api.Step{{}, {Rule: 1, Vals: []api.Term{text("x")}, Uses: ints(0)}}},
		{Rules: clauses(t, "p."), Steps: []api.Step{{}}},
		{Rules: clauses(t, "e. f. g :- e, f, e."), Steps: []api.Step{{}, {Rule: 1}, {Rule: 2, Uses: ints(0, 1, 0)}}},
	}
}

// proofLines: of someProofs.
func proofLines() [][]string {
	return [][]string{
		texts("    0. a says g(x) by a says g(x).", "    1. m(x) by m(V0) :- a says g(V0). from 0"),
		texts("    0. p by p."),
		texts("    0. e by e.", "    1. f by f.", "    2. g by g :- e, f, e. from 0, 1, 0"),
	}
}

// TestFewerAndMoreProofs: an atom with no derivation at its place has none, one with no atom at its place isn't told.
func TestFewerAndMoreProofs(t *testing.T) {
	atoms, lines := someAtoms()
	proofs, below := someProofs(t), proofLines()
	for n := range 6 {
		for m := range len(proofs) + 1 {
			want := texts(fmt.Sprint("ok ", n-m))
			for i := range n {
				want = append(want, "  "+lines[i])
				if i < m {
					want = append(want, below[i]...)
				}
			}
			told := api.Told{N: n - m, Atoms: atoms[:n], Proofs: proofs[:m]}
			wantTell(t, "P26.3", api.Do{Kind: api.DoQuery}, told, want...)
			other := full(t)
			other.N, other.Atoms, other.Proofs = told.N, told.Atoms, told.Proofs
			wantTell(t, "P26.3", api.Do{Kind: api.DoQuery}, other, want...)
		}
	}
	wantTell(t, "P26.3", api.Do{Kind: api.DoQuery}, api.Told{N: 1, Atoms: []api.Atom{}, Proofs: proofs}, "ok 1")
	wantTell(t, "P26.3", api.Do{Kind: api.DoQuery}, api.Told{}, "ok 0")
}

// TestProofsElsewhere: of a derivation that isn't the atom's the lines are told all the same; the same one may come twice.
func TestProofsElsewhere(t *testing.T) {
	p, below := someProofs(t)[1], proofLines()[1][0]
	wantTell(t, "P26.3", api.Do{Kind: api.DoQuery}, api.Told{N: 1, Atoms: []api.Atom{atom("z"), atom("z")}, Proofs: []api.Proof{p, p}}, "ok 1", "  z", below, "  z", below)
}

// TestOddProofs: derivations that are none: what proof.Text says of them.
func TestOddProofs(t *testing.T) {
	p := atom("p")
	for _, c := range []struct {
		p    api.Proof
		want []string
	}{
		{api.Proof{}, nil},
		{api.Proof{Rules: clauses(t, "p. q.")}, nil},
		{api.Proof{Steps: []api.Step{{}}}, texts("    0. ? by ?")},
		{api.Proof{Rules: clauses(t, "p."), Steps: []api.Step{{Rule: -1}, {Rule: 1}, {Uses: ints(9, -3, 2)}}}, texts("    0. ? by ?", "    1. ? by ?", "    2. p by p. from 9, -3, 2")},
		{api.Proof{Rules: []api.Clause{{Head: atom("good", variable(1))}}, Steps: []api.Step{{Uses: ints(-1, 0)}}}, texts("    0. good(V1) by ? from -1, 0")},
		{api.Proof{Rules: clauses(t, "p(X) :- q(X)."), Steps: []api.Step{{}, {Vals: []api.Term{num(leastInt), num(2)}, Uses: []int{}}}}, texts("    0. p(V0) by p(V0) :- q(V0).", "    1. p(-9223372036854775808) by p(V0) :- q(V0).")},
	} {
		wantTell(t, "P26.3", api.Do{Kind: api.DoQuery}, api.Told{N: 1, Atoms: []api.Atom{p, p}, Proofs: []api.Proof{c.p}}, append(append(texts("ok 1", "  p"), c.want...), "  p")...)
	}
}

// TestLongDerivation: a step for each of many facts, each from the one ahead.
func TestLongDerivation(t *testing.T) {
	const n = 60
	program, want := "p0. ", texts(fmt.Sprint("ok ", n+2), fmt.Sprint("  p", n), "    0. p0 by p0.")
	for i := range n {
		program += fmt.Sprintf("p%d :- p%d. ", i+1, i)
		want = append(want, fmt.Sprintf("    %d. p%d by p%d :- p%d. from %d", i+1, i+1, i+1, i, i))
	}
	text := fmt.Sprintf("enroll ann\nassert ann %q\nquery ann \"p%d?\" 1000\n", program, n)
	wantRun(t, "P26.3", text, append(texts("ok", fmt.Sprint("ok ", n+1)), want...)...)
	wantRun(t, "P26.3", strings.Replace(text, "1000", fmt.Sprint(n+2), 1), append(texts("ok", fmt.Sprint("ok ", n+1)), want...)...)
	wantRun(t, "P26.3", strings.Replace(text, "1000", fmt.Sprint(n+1), 1), "ok", fmt.Sprint("ok ", n+1), "E103 0")
}

// TestSeveralAnswers: each has its own derivation.
func TestSeveralAnswers(t *testing.T) {
	wantRun(t, "P26.3", "enroll ann\nassert ann \"e(1, 2). e(2, 3). t(X, Y) :- e(X, Y). t(X, Y) :- e(X, Z), t(Z, Y).\"\nquery ann \"t(X, Y)?\" 9\nquery ann \"t(Y, Y)?\" 9",
		"ok", "ok 4", "ok 4",
		"  t(1, 2)",
		"    0. e(1, 2) by e(1, 2).",
		"    1. t(1, 2) by t(V0, V1) :- e(V0, V1). from 0",
		"  t(1, 3)",
		"    0. e(1, 2) by e(1, 2).",
		"    1. e(2, 3) by e(2, 3).",
		"    2. t(2, 3) by t(V0, V1) :- e(V0, V1). from 1",
		"    3. t(1, 3) by t(V0, V1) :- e(V0, V2), t(V2, V1). from 0, 2",
		"  t(2, 3)",
		"    0. e(2, 3) by e(2, 3).",
		"    1. t(2, 3) by t(V0, V1) :- e(V0, V1). from 0",
		"ok 4",
	)
}
