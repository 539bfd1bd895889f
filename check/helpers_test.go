package check_test

import (
	"slices"
	"strings"
	"testing"

	"hearsay/api"
	"hearsay/check"
	"hearsay/eval"
	"hearsay/syntax"
)

const (
	leastInt    = -1 << 63
	greatestInt = 1<<63 - 1
)

var (
	none = api.Term{}
	a    = txt("a")
	b    = txt("b")
	c    = txt("c")
	ann  = txt("ann")
	bob  = txt("bob")
	carl = txt("carl")
)

func num(n int) api.Term    { return api.Term{Kind: api.KindNum, N: n} }
func txt(s string) api.Term { return api.Term{Kind: api.KindText, S: s} }
func v(n int) api.Term      { return api.Term{Kind: api.KindVar, N: n} }

// noConstants: variables, none, and terms that are valid nowhere.
func noConstants() []api.Term {
	return terms(v(0), v(1), v(71), v(greatestInt), v(-1), v(leastInt), none, txt(long(65)), txt(long(1000)),
		api.Term{Kind: api.KindNum, N: 1, S: "a"}, api.Term{Kind: api.KindText, N: 1, S: "a"}, api.Term{Kind: api.KindVar, S: "a"},
		api.Term{Kind: api.KindNone, N: 1}, api.Term{Kind: api.KindNone, S: "a"}, api.Term{Kind: 4, S: "a"}, api.Term{Kind: -1}, api.Term{Kind: greatestInt, N: 1}, api.Term{Kind: leastInt})
}

// farOff: numbers that are no place of a short list, but those just beyond it.
func farOff() []int {
	return []int{leastInt, leastInt + 1, -1 << 32, -5000, -2, -1, 5000, 1 << 31, 1 << 32, greatestInt - 1, greatestInt}
}

func long(n int) string { return strings.Repeat("a", n) }

func nTimes[T any](n int, x T) []T { return slices.Repeat([]T{x}, n) }

func atom(name string, args ...api.Term) api.Atom { return api.Atom{Name: name, Args: args} }

func p(args ...api.Term) api.Atom { return atom("p", args...) }
func q(args ...api.Term) api.Atom { return atom("q", args...) }
func r(args ...api.Term) api.Atom { return atom("r", args...) }

// by: the same atom, said by someone.
func by(who api.Term, of api.Atom) api.Atom {
	of.By = who
	return of
}

func atoms(l ...api.Atom) []api.Atom { return l }

func terms(l ...api.Term) []api.Term { return l }

func test(op int, l, r api.Term) api.Test { return api.Test{Op: op, L: l, R: r} }

func rule(head api.Atom, body ...api.Atom) api.Clause { return api.Clause{Head: head, Body: body} }

func with(c api.Clause, tests ...api.Test) api.Clause {
	c.Tests = tests
	return c
}

func rules(l ...api.Clause) []api.Clause { return l }

func step(rule int, vals []api.Term, uses ...int) api.Step {
	return api.Step{Rule: rule, Vals: vals, Uses: uses}
}

func steps(l ...api.Step) []api.Step { return l }

func derivation(rules []api.Clause, steps ...api.Step) api.Proof {
	return api.Proof{Rules: rules, Steps: steps}
}

// read: the clause of a text whose variables are written V0, V1 .. as they have their numbers, so that what is read is what stands there.
func read(t *testing.T, text string) api.Clause {
	t.Helper()
	c, f := syntax.Clause(text)
	if f.Err != api.OK {
		t.Fatalf("%s: fault %v", text, f)
	}
	if back := syntax.Print(c); back != text {
		t.Fatalf("%s is %s", text, back)
	}
	return c
}

// readAll: one clause of each text, as they stand.
func readAll(t *testing.T, texts ...string) []api.Clause {
	t.Helper()
	var cs []api.Clause
	for _, s := range texts {
		cs = append(cs, read(t, s))
	}
	return cs
}

// run: the least model of clauses that have one within the limits.
func run(t *testing.T, cs []api.Clause) api.Model {
	t.Helper()
	m, err := eval.Run(cs, greatestInt, 3)
	if err != api.OK {
		t.Fatalf("Run(%v, ..) is %d", cs, err)
	}
	return m
}

func isFactOf(m api.Model, f api.Atom) bool {
	return slices.ContainsFunc(m.Facts, func(k api.Known) bool { return sameAtom(k.Fact, f) })
}

func sameAtom(x, y api.Atom) bool {
	return x.Name == y.Name && x.By == y.By && slices.Equal(x.Args, y.Args)
}

// same: atom by atom, nil and empty lists being one.
func same(x, y []api.Atom) bool { return slices.EqualFunc(x, y, sameAtom) }

func sameClause(x, y api.Clause) bool {
	return sameAtom(x.Head, y.Head) && same(x.Body, y.Body) && slices.Equal(x.Tests, y.Tests)
}

func sameStep(x, y api.Step) bool {
	return x.Rule == y.Rule && slices.Equal(x.Vals, y.Vals) && slices.Equal(x.Uses, y.Uses)
}

func sameProof(x, y api.Proof) bool {
	return slices.EqualFunc(x.Rules, y.Rules, sameClause) && slices.EqualFunc(x.Steps, y.Steps, sameStep)
}

func cloneAtom(x api.Atom) api.Atom {
	x.Args = slices.Clone(x.Args)
	return x
}

func cloneClause(c api.Clause) api.Clause {
	out := api.Clause{Head: cloneAtom(c.Head), Tests: slices.Clone(c.Tests)}
	for _, x := range c.Body {
		out.Body = append(out.Body, cloneAtom(x))
	}
	return out
}

func cloneClauses(cs []api.Clause) []api.Clause {
	var out []api.Clause
	for _, c := range cs {
		out = append(out, cloneClause(c))
	}
	return out
}

func cloneStep(s api.Step) api.Step {
	return api.Step{Rule: s.Rule, Vals: slices.Clone(s.Vals), Uses: slices.Clone(s.Uses)}
}

// clone: a copy that may be changed at any place.
func clone(of api.Proof) api.Proof {
	out := api.Proof{Rules: cloneClauses(of.Rules)}
	for _, s := range of.Steps {
		out.Steps = append(out.Steps, cloneStep(s))
	}
	return out
}

func wantFacts(t *testing.T, of api.Proof, want ...api.Atom) {
	t.Helper()
	if got, err := check.Conclude(of); !same(got, want) || err != api.OK {
		t.Errorf("P12.1: Conclude of %v is %v, %d, want %v, OK", of, got, err, want)
	}
}

// wantErr: of Conclude, with nothing beside it, and so of Check, whatever the clauses and the goal.
func wantErr(t *testing.T, of api.Proof, want api.Errno) {
	t.Helper()
	if got, err := check.Conclude(of); len(got) != 0 || err != want {
		t.Errorf("P12.1: Conclude of %v is %v, %d, want %d and nothing", of, got, err, want)
	}
	for _, cs := range [][]api.Clause{of.Rules, nil} {
		if err := check.Check(cs, of, p(a)); err != want {
			t.Errorf("P12.2: Check(%v, %v, ..) is %d, want %d", cs, of, err, want)
		}
	}
}

func wantCheck(t *testing.T, cs []api.Clause, of api.Proof, f api.Atom, want api.Errno) {
	t.Helper()
	if err := check.Check(cs, of, f); err != want {
		t.Errorf("P12.2: Check(%v, %v, %v) is %d, want %d", cs, of, f, err, want)
	}
}
