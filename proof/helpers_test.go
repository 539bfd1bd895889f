package proof_test

import (
	"slices"
	"strings"
	"testing"

	"hearsay/api"
	"hearsay/eval"
	"hearsay/proof"
	"hearsay/syntax"
)

const (
	leastInt    = -1 << 63
	greatestInt = 1<<63 - 1
)

var (
	none = api.Term{}
	a    = txt("a")
	b    = txt("b")
	c    = txt("c")
	ann  = txt("ann")
	odd  = api.Term{Kind: api.KindNum, N: 1, S: "x"} // valid nowhere
)

func num(n int) api.Term    { return api.Term{Kind: api.KindNum, N: n} }
func txt(s string) api.Term { return api.Term{Kind: api.KindText, S: s} }
func v(n int) api.Term      { return api.Term{Kind: api.KindVar, N: n} }

func long(n int) string { return strings.Repeat("a", n) }

func nTimes[T any](n int, x T) []T { return slices.Repeat([]T{x}, n) }

func atom(name string, args ...api.Term) api.Atom { return api.Atom{Name: name, Args: args} }

func p(args ...api.Term) api.Atom { return atom("p", args...) }
func q(args ...api.Term) api.Atom { return atom("q", args...) }
func r(args ...api.Term) api.Atom { return atom("r", args...) }
func s(args ...api.Term) api.Atom { return atom("s", args...) }

// by: the same atom, said by someone.
func by(who api.Term, of api.Atom) api.Atom {
	of.By = who
	return of
}

func atoms(l ...api.Atom) []api.Atom { return l }

func terms(l ...api.Term) []api.Term { return l }

func uses(l ...int) []int { return l }

func test(op int, l, r api.Term) api.Test { return api.Test{Op: op, L: l, R: r} }

func rule(head api.Atom, body ...api.Atom) api.Clause { return api.Clause{Head: head, Body: body} }

func with(c api.Clause, tests ...api.Test) api.Clause {
	c.Tests = tests
	return c
}

func rules(l ...api.Clause) []api.Clause { return l }

// known: a model's entry.
func known(f api.Atom, round, rule int, vals ...api.Term) api.Known {
	return api.Known{Fact: f, Round: round, Rule: rule, Vals: vals}
}

func model(rules []api.Clause, facts ...api.Known) api.Model {
	return api.Model{Rules: rules, Facts: facts}
}

func step(rule int, vals []api.Term, uses ...int) api.Step {
	return api.Step{Rule: rule, Vals: vals, Uses: uses}
}

func derivation(rules []api.Clause, steps ...api.Step) api.Proof {
	return api.Proof{Rules: rules, Steps: steps}
}

// read: the clause of a text whose variables are written V0, V1 .. as they have their numbers, so that what is read is what stands there.
func read(t *testing.T, text string) api.Clause {
	t.Helper()
	c, f := syntax.Clause(text)
	if f.Err != api.OK {
		t.Fatalf("%s: fault %v", text, f)
	}
	if back := syntax.Print(c); back != text {
		t.Fatalf("%s is %s", text, back)
	}
	return c
}

// readAll: one clause of each text, as they stand.
func readAll(t *testing.T, texts ...string) []api.Clause {
	t.Helper()
	var cs []api.Clause
	for _, s := range texts {
		cs = append(cs, read(t, s))
	}
	return cs
}

// run: the model of clauses of which there is one.
func run(t *testing.T, cs []api.Clause) api.Model {
	t.Helper()
	m, err := eval.Run(cs, greatestInt, 3)
	if err != api.OK {
		t.Fatalf("Run(%v, ..) is %d", cs, err)
	}
	return m
}

func sameAtom(x, y api.Atom) bool {
	return x.Name == y.Name && x.By == y.By && slices.Equal(x.Args, y.Args)
}

// same: atom by atom, nil and empty lists being one.
func same(x, y []api.Atom) bool { return slices.EqualFunc(x, y, sameAtom) }

func sameClause(x, y api.Clause) bool {
	return sameAtom(x.Head, y.Head) && same(x.Body, y.Body) && slices.Equal(x.Tests, y.Tests)
}

func sameKnown(x, y api.Known) bool {
	return sameAtom(x.Fact, y.Fact) && x.Round == y.Round && x.Rule == y.Rule && slices.Equal(x.Vals, y.Vals)
}

func sameModel(x, y api.Model) bool {
	return slices.EqualFunc(x.Rules, y.Rules, sameClause) && slices.EqualFunc(x.Facts, y.Facts, sameKnown) && x.Rounds == y.Rounds
}

func sameStep(x, y api.Step) bool {
	return x.Rule == y.Rule && slices.Equal(x.Vals, y.Vals) && slices.Equal(x.Uses, y.Uses)
}

func sameProof(x, y api.Proof) bool {
	return slices.EqualFunc(x.Rules, y.Rules, sameClause) && slices.EqualFunc(x.Steps, y.Steps, sameStep)
}

func wantProof(t *testing.T, m api.Model, f api.Atom, want api.Proof) {
	t.Helper()
	if got, err := proof.Prove(m, f); !sameProof(got, want) || err != api.OK {
		t.Errorf("P11.1: Prove(%v, %v) is\n%v, %d, want\n%v, OK", m, f, got, err, want)
	}
}

// wantErr: with nothing beside it.
func wantErr(t *testing.T, m api.Model, f api.Atom, want api.Errno) {
	t.Helper()
	if got, err := proof.Prove(m, f); !sameProof(got, api.Proof{}) || err != want {
		t.Errorf("P11.1: Prove(%v, %v) is %v, %d, want %d and nothing", m, f, got, err, want)
	}
}

func wantTrim(t *testing.T, of, want api.Proof) {
	t.Helper()
	got := proof.Trim(of)
	if !sameProof(got, want) {
		t.Errorf("P11.3: Trim of\n%v is\n%v, want\n%v", of, got, want)
	}
	if again := proof.Trim(got); !sameProof(again, want) {
		t.Errorf("P11.7: Trim of Trim of\n%v is\n%v, want\n%v", of, again, want)
	}
}

func wantDepth(t *testing.T, want int, steps ...api.Step) {
	t.Helper()
	// Rules count for nothing here.
	for _, rs := range [][]api.Clause{nil, rules(rule(p(a)))} {
		if got := proof.Depth(derivation(rs, steps...)); got != want {
			t.Errorf("P11.4: Depth of the steps %v is %d, want %d", steps, got, want)
		}
	}
}

func wantText(t *testing.T, of api.Proof, lines ...string) {
	t.Helper()
	want := ""
	for _, l := range lines {
		want += l + "\n"
	}
	if got := proof.Text(of); got != want {
		t.Errorf("P11.5: Text of %v is\n%q, want\n%q", of, got, want)
	}
}

func wantFacts(t *testing.T, of api.Proof, want ...api.Atom) {
	t.Helper()
	if got := proof.Facts(of); !same(got, want) {
		t.Errorf("P11.2: Facts of %v is %v, want %v", of, got, want)
	}
}
