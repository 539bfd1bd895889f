package proof_test

import (
	"testing"

	"hearsay/api"
	"hearsay/proof"
)

// The chapter's examples, one by one.

func chainRules(t *testing.T) []api.Clause {
	t.Helper()
	return readAll(t, "edge(a, b).", "edge(b, c).", "path(V0, V1) :- edge(V0, V1).", "path(V0, V1) :- edge(V0, V2), path(V2, V1).")
}

func edge(x, y api.Term) api.Atom { return atom("edge", x, y) }
func path(x, y api.Term) api.Atom { return atom("path", x, y) }

// chainModel: as the chapter tells it, but that it stands there in the order of the facts; Run's answer is the same.
func chainModel(t *testing.T) api.Model {
	t.Helper()
	m := model(chainRules(t), known(edge(a, b), 1, 0), known(edge(b, c), 1, 1), known(path(a, b), 2, 2, a, b), known(path(a, c), 3, 3, a, c, b), known(path(b, c), 2, 2, b, c))
	m.Rounds = 4
	if got := run(t, m.Rules); !sameModel(got, m) {
		t.Fatalf("the model is %v, want %v", got, m)
	}
	return m
}

// chainSteps: those of path(a, c).
func chainSteps() []api.Step {
	return []api.Step{step(0, nil), step(1, nil), step(2, terms(b, c), 1), step(3, terms(a, c, b), 0, 2)}
}

func TestExample1(t *testing.T) {
	m := chainModel(t)
	want := derivation(m.Rules[:1], step(0, nil))
	wantProof(t, m, edge(a, b), want)
	wantDepth(t, 1, want.Steps...)
	wantText(t, want, "0. edge(a, b) by edge(a, b).")
}

func TestExample2(t *testing.T) {
	m := chainModel(t)
	want := derivation(m.Rules, chainSteps()...)
	wantProof(t, m, path(a, c), want)
	wantDepth(t, 3, want.Steps...)
	wantFacts(t, want, edge(a, b), edge(b, c), path(b, c), path(a, c))
	wantText(t, want,
		"0. edge(a, b) by edge(a, b).",
		"1. edge(b, c) by edge(b, c).",
		"2. path(b, c) by path(V0, V1) :- edge(V0, V1). from 1",
		"3. path(a, c) by path(V0, V1) :- edge(V0, V2), path(V2, V1). from 0, 2")
	got, _ := proof.Prove(m, path(a, c))
	wantTrim(t, got, want)
}

func TestExample3(t *testing.T) {
	m := chainModel(t)
	wantErr(t, m, path(c, a), api.ErrNoFact)
	wantErr(t, m, path(v(0), v(1)), api.ErrNoFact)
	m.Facts[4].Round = 3
	wantErr(t, m, path(a, c), api.ErrModel)
	wantProof(t, m, path(a, b), derivation(rules(m.Rules[0], m.Rules[2]), step(0, nil), step(1, terms(a, b), 0)))
	m = chainModel(t)
	m.Facts[0].Rule = 9
	for _, f := range atoms(edge(a, b), path(a, b), path(a, c)) {
		wantErr(t, m, f, api.ErrModel)
	}
	wantProof(t, m, path(b, c), derivation(m.Rules[1:3], step(0, nil), step(1, terms(b, c), 0)))
}

func TestExample4(t *testing.T) {
	rs, l := chainRules(t), chainSteps()
	want := derivation(rs, l...)
	wantTrim(t, derivation(rs, l[0], l[1], l[2], step(2, terms(a, b), 0), l[3]), want)
	wantTrim(t, derivation(rs, l[0], l[1], step(1, nil), step(2, terms(b, c), 2), step(3, terms(a, c, b), 0, 3)), want)
}

func TestExample5(t *testing.T) {
	rs := chainRules(t)
	for _, of := range []api.Proof{{}, derivation(rs), derivation(rs, step(0, nil, 0)), derivation(rs, step(-1, nil))} {
		wantTrim(t, of, of)
	}
	wantFacts(t, derivation(rs, step(0, nil), step(7, nil)), edge(a, b), api.Atom{})
	wantDepth(t, 1, step(0, nil, 5, -1))
	wantDepth(t, 1, step(0, nil, 5, -1), step(0, nil, -1, 5), step(0, nil, 5, -1))
}

func TestExample6(t *testing.T) {
	wantText(t, derivation(rules(rule(atom("good", v(1)))), step(0, nil, -1, 0)), "0. good(V1) by ? from -1, 0")
}
