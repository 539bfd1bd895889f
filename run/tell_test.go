package run_test

import (
	"fmt"
	"slices"
	"strings"
	"testing"

	"hearsay/api"
	"hearsay/run"
)

// P26.3: what each kind tells with OK. What is wanted stands here by hand.

// bare: kinds whose first line is ok alone.
func bare() []int {
	return append(ints(api.DoEnroll, api.DoForget, api.DoDrop, api.DoSwap, api.DoFlip, api.DoCut), noKinds()...)
}

func counting() []int {
	return ints(api.DoAssert, api.DoRetract, api.DoWatch, api.DoProve, api.DoCopy, api.DoForge, api.DoCrash)
}

func naming() []int { return ints(api.DoExport, api.DoImport) }

func listing() []int { return ints(api.DoAsk, api.DoLoss, api.DoShow) }

func quoting() []int { return ints(api.DoWhy, api.DoClauses, api.DoRedundant) }

func TestEveryKindIsTold(t *testing.T) {
	all := slices.Concat(bare(), counting(), naming(), listing(), quoting(), ints(api.DoQuery, api.DoNews, api.DoWaiting))
	for _, k := range append(kinds(), noKinds()...) {
		if !slices.Contains(all, k) {
			t.Errorf("P26.3: no test for the kind %d", k)
		}
	}
}

func TestBareKinds(t *testing.T) {
	for _, kind := range bare() {
		wantTell(t, "P26.3", api.Do{Kind: kind}, api.Told{}, "ok")
		wantTell(t, "P26.3", api.Do{Kind: kind}, full(t), "ok")
	}
}

func TestCountingKinds(t *testing.T) {
	for _, kind := range counting() {
		for _, n := range someNumbers() {
			wantTell(t, "P26.3", api.Do{Kind: kind}, api.Told{N: n}, fmt.Sprintf("ok %d", n))
			told := full(t)
			told.N = n
			wantTell(t, "P26.3", api.Do{Kind: kind, Who: "x", N: 77, M: 78, K: 79}, told, fmt.Sprintf("ok %d", n))
		}
		wantTell(t, "P26.3", api.Do{Kind: kind}, api.Told{N: leastInt}, "ok -9223372036854775808")
		wantTell(t, "P26.3", api.Do{Kind: kind}, api.Told{N: greatestInt}, "ok 9223372036854775807")
	}
}

func TestNamingKinds(t *testing.T) {
	rising := api.Digest{}
	for i := range rising {
		rising[i] = byte(i * 8)
	}
	ids := map[api.Digest]string{
		{}:                      strings.Repeat("0", 64),
		{31: 0xa5}:              strings.Repeat("0", 62) + "a5",
		{0xff, 0x0f, 0xf0, 0x9}: "ff0ff009" + strings.Repeat("0", 56),
		rising:                  "0008101820283038404850586068707880889098a0a8b0b8c0c8d0d8e0e8f0f8",
	}
	for _, kind := range naming() {
		for _, n := range someNumbers() {
			for id, hex := range ids {
				wantTell(t, "P26.3", api.Do{Kind: kind}, api.Told{N: n, Id: id}, fmt.Sprintf("ok %d %s", n, hex))
				told := full(t)
				told.N, told.Id = n, id
				wantTell(t, "P26.3", api.Do{Kind: kind, N: 1}, told, fmt.Sprintf("ok %d %s", n, hex))
			}
		}
	}
}

// someAtoms: each with its text.
func someAtoms() ([]api.Atom, []string) {
	return []api.Atom{
		atom("p"), atom("p", num(-7)), saysAtom("ann", atom("p", text("x"), num(0))), saysAtom("Ann", atom("long_Name9", text("X"), text(""))),
		{By: variable(0), Name: "v", Args: []api.Term{variable(1), variable(0)}}, atom("q", text("a b"), text("says"), num(leastInt), num(greatestInt)),
		atom("p"), atom("a", text("%"), text("\"\\"), text("é\x00")),
	}, texts(
		"p", "p(-7)", "ann says p(x, 0)", "\"Ann\" says long_Name9(\"X\", \"\")",
		"V0 says v(V1, V0)", "q(\"a b\", \"says\", -9223372036854775808, 9223372036854775807)",
		"p", "a(\"%\", \"\\\"\\\\\", \"\\xc3\\xa9\\x00\")",
	)
}

func ahead(with string, l []string) []string {
	var out []string
	for _, s := range l {
		out = append(out, with+s)
	}
	return out
}

// withFirst: a first line, and further ones.
func withFirst(first string, further ...[]string) []string {
	return append(texts(first), slices.Concat(further...)...)
}

// TestListingKinds: of lists that are empty, of one and of several; as they stand there: neither sorted nor without doubles.
func TestListingKinds(t *testing.T) {
	atoms, lines := someAtoms()
	for _, kind := range listing() {
		for from := range len(atoms) + 1 {
			for to := from; to <= len(atoms); to++ {
				wantTell(t, "P26.3", api.Do{Kind: kind}, api.Told{Atoms: atoms[from:to]}, withFirst("ok", ahead("  ", lines[from:to]))...)
				told := full(t)
				told.Atoms = atoms[from:to]
				wantTell(t, "P26.3", api.Do{Kind: kind}, told, withFirst("ok", ahead("  ", lines[from:to]))...)
			}
		}
		wantTell(t, "P26.3", api.Do{Kind: kind}, api.Told{Atoms: []api.Atom{}}, "ok")
	}
}

func TestNewsIsTold(t *testing.T) {
	atoms, lines := someAtoms()
	for came := range len(atoms) + 1 {
		for gone := range len(atoms) + 1 {
			want := withFirst("ok", ahead("  + ", lines[:came]), ahead("  - ", lines[gone:]))
			wantTell(t, "P26.3", api.Do{Kind: api.DoNews}, api.Told{Atoms: atoms[:came], Gone: atoms[gone:]}, want...)
			told := full(t)
			told.Atoms, told.Gone = atoms[:came], atoms[gone:]
			wantTell(t, "P26.3", api.Do{Kind: api.DoNews}, told, want...)
		}
	}
	wantTell(t, "P26.3", api.Do{Kind: api.DoNews}, api.Told{}, "ok")
}

func TestQuotingKinds(t *testing.T) {
	lines := texts("p.", "may(V0) :- alice says good(V0), V0 != dan.", "p(1, \"X\").", "p.", "e :- 1 < 2.", "ann says good(V0) :- V1 says good(V0), V0 <= V1.")
	cs, want := clauses(t, strings.Join(lines, " ")), ahead("  ", lines)
	for _, kind := range quoting() {
		for from := range len(cs) + 1 {
			for to := from; to <= len(cs); to++ {
				wantTell(t, "P26.3", api.Do{Kind: kind}, api.Told{Clauses: cs[from:to]}, withFirst("ok", want[from:to])...)
				told := full(t)
				told.Clauses = cs[from:to]
				wantTell(t, "P26.3", api.Do{Kind: kind}, told, withFirst("ok", want[from:to])...)
			}
		}
		wantTell(t, "P26.3", api.Do{Kind: kind}, api.Told{Clauses: []api.Clause{}}, "ok")
	}
}

func TestWaitingIsTold(t *testing.T) {
	all, want := someNumbers(), "ok"
	for n := range len(all) + 1 {
		wantTell(t, "P26.3", api.Do{Kind: api.DoWaiting}, api.Told{Nums: all[:n]}, want)
		told := full(t)
		told.Nums = all[:n]
		wantTell(t, "P26.3", api.Do{Kind: api.DoWaiting}, told, want)
		if n < len(all) {
			want += fmt.Sprintf(" %d", all[n])
		}
	}
	wantTell(t, "P26.3", api.Do{Kind: api.DoWaiting}, api.Told{Nums: []int{}}, "ok")
	wantTell(t, "P26.3", api.Do{Kind: api.DoWaiting}, api.Told{Nums: ints(3, -1, 3)}, "ok 3 -1 3")
	wantTell(t, "P26.3", api.Do{Kind: api.DoWaiting}, api.Told{N: 4}, "ok")
}

// TestNoTexts: what isn't valid has no text: the line has what stands ahead of it alone.
func TestNoTexts(t *testing.T) {
	p := atom("p", num(-7))
	bad := []api.Atom{{}, {Name: "P"}, atom("says"), atom("p", api.Term{}), atom("p", text(strings.Repeat("x", 65))), saysAtom("", atom("p")), {By: num(1), Name: "p"}, atom("p", make([]api.Term, 9)...), atom(strings.Repeat("n", 33)), atom("p", variable(-1)), atom("p\n")}
	for _, a := range bad {
		for _, kind := range listing() {
			wantTell(t, "P26.3", api.Do{Kind: kind}, api.Told{Atoms: []api.Atom{p, a, p}}, "ok", "  p(-7)", "  ", "  p(-7)")
		}
		wantTell(t, "P26.3", api.Do{Kind: api.DoNews}, api.Told{Atoms: []api.Atom{a, p}, Gone: []api.Atom{p, a}}, "ok", "  + ", "  + p(-7)", "  - p(-7)", "  - ")
		wantTell(t, "P26.3", api.Do{Kind: api.DoQuery}, api.Told{N: 2, Atoms: []api.Atom{a, p}}, "ok 2", "  ", "  p(-7)")
		for _, c := range []api.Clause{{Head: a}, {Head: p, Body: []api.Atom{p, a}}} {
			for _, kind := range quoting() {
				wantTell(t, "P26.3", api.Do{Kind: kind}, api.Told{Clauses: append(clauses(t, "p."), c)}, "ok", "  p.", "  ")
			}
		}
	}
	for _, c := range []api.Clause{{}, {Head: atom("p", variable(0))}, {Head: p, Tests: []api.Test{{}}}, {Head: p, Body: []api.Atom{atom("q", variable(1))}}} {
		for _, kind := range quoting() {
			wantTell(t, "P26.3", api.Do{Kind: kind}, api.Told{Clauses: []api.Clause{c}}, "ok", "  ")
		}
	}
}

// TestStepsOtherFields: of the step its kind alone is looked at.
func TestStepsOtherFields(t *testing.T) {
	for _, kind := range append(kinds(), noKinds()...) {
		want := run.Tell(api.Do{Kind: kind}, full(t))
		got := run.Tell(api.Do{Kind: kind, Who: "ann", To: "bob", Text: "p(X)?", Bytes: []byte("x\n"), N: -4, M: greatestInt, K: leastInt}, full(t))
		wantLines(t, "P26.3", fmt.Sprint("kind ", kind), got, want)
	}
}

// TestAsPlain: every kind with lists of every sort, beside the chapter's table.
func TestAsPlain(t *testing.T) {
	atoms, _ := someAtoms()
	proofs := someProofs(t)
	cs := clauses(t, "p. q(X) :- p, r(X). ann says p.")
	for _, kind := range append(kinds(), noKinds()...) {
		for a := range 4 {
			for p := range 4 {
				for g := range 3 {
					told := api.Told{N: a - p, Id: api.Digest{byte(a), byte(p)}, Atoms: atoms[:a], Gone: atoms[2 : 2+g], Clauses: cs[:g], Proofs: proofs[:p], Nums: ints(3, -1, 2)[:g]}
					wantTell(t, "P26.3", api.Do{Kind: kind}, told, plainTell(api.Do{Kind: kind}, told)...)
				}
			}
		}
	}
}
