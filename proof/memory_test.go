package proof_test

import (
	"slices"
	"testing"

	"hearsay/api"
	"hearsay/proof"
)

// P11.8, R3: what is handed in stays, its spare room too, and isn't kept; what is answered is new memory.

// withRoom: a copy of l with spare room behind it that isn't zero.
func withRoom[T any](l []T, behind ...T) []T {
	return append(append(make([]T, 0, len(l)+len(behind)), l...), behind...)[:len(l)]
}

func spared(x api.Atom) api.Atom {
	x.Args = withRoom(x.Args, num(71), b, v(3), ann)
	return x
}

// sparedClause: a copy of c each of whose lists has spare room that isn't zero.
func sparedClause(c api.Clause) api.Clause {
	out := api.Clause{Head: spared(c.Head)}
	for _, x := range c.Body {
		out.Body = append(out.Body, spared(x))
	}
	out.Body = withRoom(out.Body, p(a), by(ann, q(v(0), v(1))))
	out.Tests = withRoom(c.Tests, test(api.OpEq, a, b), test(9, v(0), none))
	return out
}

func sparedClauses(cs []api.Clause) []api.Clause {
	var out []api.Clause
	for _, c := range cs {
		out = append(out, sparedClause(c))
	}
	return withRoom(out, rule(p(b)), rule(q(v(5))), api.Clause{})
}

func sparedModel(m api.Model) api.Model {
	out := api.Model{Rules: sparedClauses(m.Rules), Rounds: m.Rounds}
	for _, k := range m.Facts {
		k.Fact, k.Vals = spared(k.Fact), withRoom(k.Vals, num(72), a)
		out.Facts = append(out.Facts, k)
	}
	out.Facts = withRoom(out.Facts, known(p(a), 77, 0), known(p(b, b), 78, 1, a))
	return out
}

func sparedProof(of api.Proof) api.Proof {
	out := api.Proof{Rules: sparedClauses(of.Rules)}
	for _, s := range of.Steps {
		out.Steps = append(out.Steps, api.Step{Rule: s.Rule, Vals: withRoom(s.Vals, num(73), c), Uses: withRoom(s.Uses, 0, -5, 74)})
	}
	out.Steps = withRoom(out.Steps, step(0, terms(a), 0), step(-1, nil))
	return out
}

func wholeAtom(x api.Atom) api.Atom {
	x.Args = slices.Clone(x.Args[:cap(x.Args)])
	return x
}

// wholeClauses: the clauses with all spare room taken in, in new memory.
func wholeClauses(cs []api.Clause) []api.Clause {
	var out []api.Clause
	for _, c := range cs[:cap(cs)] {
		x := api.Clause{Head: wholeAtom(c.Head), Tests: slices.Clone(c.Tests[:cap(c.Tests)])}
		for _, y := range c.Body[:cap(c.Body)] {
			x.Body = append(x.Body, wholeAtom(y))
		}
		out = append(out, x)
	}
	return out
}

func wholeModel(m api.Model) api.Model {
	out := api.Model{Rules: wholeClauses(m.Rules), Rounds: m.Rounds}
	for _, k := range m.Facts[:cap(m.Facts)] {
		k.Fact, k.Vals = wholeAtom(k.Fact), slices.Clone(k.Vals[:cap(k.Vals)])
		out.Facts = append(out.Facts, k)
	}
	return out
}

func wholeProof(of api.Proof) api.Proof {
	out := api.Proof{Rules: wholeClauses(of.Rules)}
	for _, s := range of.Steps[:cap(of.Steps)] {
		out.Steps = append(out.Steps, api.Step{Rule: s.Rule, Vals: slices.Clone(s.Vals[:cap(s.Vals)]), Uses: slices.Clone(s.Uses[:cap(s.Uses)])})
	}
	return out
}

func fill[T any](l []T, mark T) {
	l = l[:cap(l)]
	for i := range l {
		l[i] = mark
	}
}

// wantApart: no two of the lists share memory, spare room too. All are written over.
func wantApart[T any](t *testing.T, what string, lists [][]T, mark func(int) T, same func(x, y T) bool) {
	t.Helper()
	for i, l := range lists {
		fill(l, mark(i))
	}
	for i, l := range lists {
		if slices.ContainsFunc(l[:cap(l)], func(x T) bool { return !same(x, mark(i)) }) {
			t.Errorf("R3: two lists of %s share memory", what)
			return
		}
	}
}

// lists: all lists of models, derivations and answers, by what they are lists of.
type lists struct {
	terms   [][]api.Term
	atoms   [][]api.Atom
	tests   [][]api.Test
	clauses [][]api.Clause
	facts   [][]api.Known
	steps   [][]api.Step
	numbers [][]int
}

func (l *lists) takeAtoms(of []api.Atom) {
	l.atoms = append(l.atoms, of)
	for _, x := range of[:cap(of)] {
		l.terms = append(l.terms, x.Args)
	}
}

func (l *lists) takeClauses(cs []api.Clause) {
	l.clauses = append(l.clauses, cs)
	for _, c := range cs[:cap(cs)] {
		l.terms = append(l.terms, c.Head.Args)
		l.tests = append(l.tests, c.Tests)
		l.takeAtoms(c.Body)
	}
}

func (l *lists) takeModel(m api.Model) {
	l.takeClauses(m.Rules)
	l.facts = append(l.facts, m.Facts)
	for _, k := range m.Facts[:cap(m.Facts)] {
		l.terms = append(l.terms, k.Fact.Args, k.Vals)
	}
}

func (l *lists) takeProof(of api.Proof) {
	l.takeClauses(of.Rules)
	l.steps = append(l.steps, of.Steps)
	for _, s := range of.Steps[:cap(of.Steps)] {
		l.terms = append(l.terms, s.Vals)
		l.numbers = append(l.numbers, s.Uses)
	}
}

func (l *lists) wantApart(t *testing.T) {
	t.Helper()
	wantApart(t, "terms", l.terms, func(i int) api.Term { return num(1000 + i) }, func(x, y api.Term) bool { return x == y })
	wantApart(t, "tests", l.tests, func(i int) api.Test { return api.Test{Op: 1000 + i} }, func(x, y api.Test) bool { return x == y })
	wantApart(t, "numbers", l.numbers, func(i int) int { return 1000 + i }, func(x, y int) bool { return x == y })
	wantApart(t, "atoms", l.atoms, func(i int) api.Atom { return p(num(i)) }, sameAtom)
	wantApart(t, "clauses", l.clauses, func(i int) api.Clause { return rule(p(num(i))) }, sameClause)
	wantApart(t, "facts", l.facts, func(i int) api.Known { return api.Known{Round: 1000 + i} }, sameKnown)
	wantApart(t, "steps", l.steps, func(i int) api.Step { return api.Step{Rule: 1000 + i} }, sameStep)
}

// someModels: with facts and rules of every kind, some of which hold together.
func someModels(t *testing.T) []api.Model {
	t.Helper()
	tested := with(rule(p(v(0), v(1)), q(v(0)), q(v(1)), q(v(0))), test(api.OpNe, v(0), v(1)), test(9, none, odd))
	models := []api.Model{{}, chainModel(t), model(rules(tested, rule(q(a)), rule(q(v(0)))), known(p(a, b), 2, 0, a, b), known(q(a), 1, 1), known(q(b), 1, 2, b, b), known(q(c), 1, 9))}
	for seed := range int64(20) {
		models = append(models, newChosen(seed).model(), run(t, newChosen(seed).program()))
	}
	return models
}

// TestModelsStay: and the atom that is asked for; and what becomes of them isn't seen.
func TestModelsStay(t *testing.T) {
	for _, of := range someModels(t) {
		ask := atoms(p(num(77)), api.Atom{})
		for _, k := range of.Facts {
			ask = append(ask, k.Fact)
		}
		for _, f := range ask {
			m, x := sparedModel(of), spared(f)
			beforeModel, before := wholeModel(m), wholeAtom(x)
			got, err := proof.Prove(m, x)
			if !sameModel(wholeModel(m), beforeModel) || !sameAtom(wholeAtom(x), before) {
				t.Errorf("R3: Prove(.., %v) changed what it was given", f)
			}
			var all lists
			all.takeModel(m)
			all.terms = append(all.terms, x.Args)
			all.wantApart(t) // all is written over
			if want, wantErr := plainProve(of, f); !sameProof(got, want) || err != wantErr {
				t.Errorf("R3: what Prove(.., %v) answered has changed with the model: %v, want %v", f, got, want)
			}
		}
	}
}

// someProofs: laid and not, trimmed and not, with rules of every kind.
func someProofs(t *testing.T) []api.Proof {
	t.Helper()
	tested := with(rule(p(v(0), v(1)), q(v(0))), test(api.OpNe, v(0), v(1)), test(9, none, odd))
	proofs := []api.Proof{{}, derivation(chainRules(t), chainSteps()...), derivation(rules(tested, tested, rule(q(a, b))), step(2, nil), step(2, terms(a)), step(0, terms(a, b), 1, 0), step(1, terms(a, b), 1)), derivation(rules(tested), step(0, terms(a), 0), step(7, terms(b), 0)), derivation(rules(tested))}
	for seed := range int64(40) {
		proofs = append(proofs, newChosen(seed).derivation())
	}
	return proofs
}

// TestDerivationsStay: behind each call; and what becomes of them isn't seen.
func TestDerivationsStay(t *testing.T) {
	for _, of := range someProofs(t) {
		x := sparedProof(of)
		before := wholeProof(x)
		trimmed, facts, depth, text := proof.Trim(x), proof.Facts(x), proof.Depth(x), proof.Text(x)
		if !sameProof(wholeProof(x), before) {
			t.Errorf("R3: the derivation %v has changed", of)
		}
		var all lists
		all.takeProof(x)
		all.wantApart(t) // all is written over
		if !sameProof(trimmed, plainTrim(of)) || !same(facts, plainFacts(of)) || depth != plainDepth(of) || text != proof.Text(of) {
			t.Errorf("R3: what was answered of %v has changed with it: %v, %v", of, trimmed, facts)
		}
	}
}

// shared: the same model, but that all its lists that can be one are.
func shared(m api.Model) api.Model {
	var one []api.Term
	for i, k := range m.Facts {
		if len(k.Vals) > len(one) {
			one = k.Vals
		}
		if slices.Equal(one[:min(len(one), len(k.Vals))], k.Vals) {
			m.Facts[i].Vals = one[:len(k.Vals)]
		}
		if slices.Equal(one[:min(len(one), len(k.Fact.Args))], k.Fact.Args) {
			m.Facts[i].Fact.Args = one[:len(k.Fact.Args)]
		}
	}
	return m
}

// TestProofsAreNewMemory: each list of several answers, and none is the model's or that of what is asked.
func TestProofsAreNewMemory(t *testing.T) {
	var all lists
	steps := 0
	for _, m := range someModels(t) {
		m = sparedModel(m)
		for _, k := range m.Facts {
			for range 2 {
				got, _ := proof.Prove(m, k.Fact)
				all.takeProof(got)
				steps += len(got.Steps)
			}
		}
		all.takeModel(m)
	}
	if steps < 500 {
		t.Errorf("only %d steps", steps)
	}
	all.wantApart(t)
}

// TestSharedArguments: lists that are handed in may share memory with one another; those of an answer don't.
func TestSharedArguments(t *testing.T) {
	one := terms(a, a, a)
	body := atoms(q(one[:1]...), q(one[:1]...), r(one[:2]...))
	rs := rules(rule(p(one...), body...), rule(q(one[:1]...)), rule(r(one[:2]...), body[:2]...))
	m := model(rs, known(p(one...), 3, 0, one...), known(q(one[:1]...), 1, 1, one...), known(r(one[:2]...), 2, 2, one...))
	var all lists
	for range 3 {
		got, err := proof.Prove(m, p(one...))
		if err != api.OK || len(got.Steps) != 3 {
			t.Fatalf("P11.1: %v, %d", got, err)
		}
		all.takeProof(got)
	}
	used := uses(0, 0, 1)
	of := derivation(append(rs, rs...), step(1, one), step(2, one, used[:2]...), step(4, one), step(0, one, used...), step(3, one, used...))
	for _, x := range []api.Proof{of, derivation(of.Rules, append(of.Steps, step(-1, one, used...))...)} {
		for range 2 {
			all.takeProof(proof.Trim(x))
			all.takeAtoms(proof.Facts(x))
		}
	}
	all.terms = append(all.terms, one)
	all.atoms = append(all.atoms, body)
	all.numbers = append(all.numbers, used)
	all.wantApart(t)
	for _, m := range someModels(t) {
		m = shared(m)
		for _, k := range m.Facts {
			got, _ := proof.Prove(m, k.Fact)
			var all lists
			all.takeProof(got)
			all.takeAtoms(proof.Facts(derivation(m.Rules, step(k.Rule, k.Vals), step(k.Rule, k.Vals))))
			before := wholeModel(m)
			all.wantApart(t)
			if !sameModel(wholeModel(m), before) {
				t.Errorf("R3: an answer shares memory with the model %v", m)
			}
		}
	}
}

// TestTrimsAreNewMemory: each list of what Trim and Facts answer, laid or not, and none is the derivation's.
func TestTrimsAreNewMemory(t *testing.T) {
	var all lists
	for _, of := range someProofs(t) {
		x := sparedProof(of)
		for range 2 {
			all.takeProof(proof.Trim(x))
			all.takeAtoms(proof.Facts(x))
		}
		all.takeProof(x)
	}
	all.wantApart(t)
}
