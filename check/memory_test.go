package check_test

import (
	"slices"
	"testing"

	"hearsay/api"
	"hearsay/check"
)

// P12.6, R3: what is handed in stays, its spare room too, and isn't kept; what is answered is new memory.

// withRoom: a copy of l with spare room behind it that isn't zero.
func withRoom[T any](l []T, behind ...T) []T {
	return append(append(make([]T, 0, len(l)+len(behind)), l...), behind...)[:len(l)]
}

func spared(x api.Atom) api.Atom {
	x.Args = withRoom(x.Args, num(71), b, v(3), ann)
	return x
}

// sparedClauses: copies each of whose lists has spare room that isn't zero.
func sparedClauses(cs []api.Clause) []api.Clause {
	var out []api.Clause
	for _, c := range cs {
		x := api.Clause{Head: spared(c.Head)}
		for _, y := range c.Body {
			x.Body = append(x.Body, spared(y))
		}
		x.Body = withRoom(x.Body, p(a), by(ann, q(v(0), v(1))))
		x.Tests = withRoom(c.Tests, test(api.OpEq, a, b), test(9, v(0), none))
		out = append(out, x)
	}
	return withRoom(out, rule(p(b)), rule(q(v(5))), api.Clause{})
}

func sparedProof(of api.Proof) api.Proof {
	out := api.Proof{Rules: sparedClauses(of.Rules)}
	for _, s := range of.Steps {
		out.Steps = append(out.Steps, api.Step{Rule: s.Rule, Vals: withRoom(s.Vals, num(73), c), Uses: withRoom(s.Uses, 0, -5, 74)})
	}
	out.Steps = withRoom(out.Steps, step(0, terms(a), 0), step(-1, nil))
	return out
}

func wholeAtom(x api.Atom) api.Atom {
	x.Args = slices.Clone(x.Args[:cap(x.Args)])
	return x
}

// wholeClauses: the clauses with all spare room taken in, in new memory.
func wholeClauses(cs []api.Clause) []api.Clause {
	var out []api.Clause
	for _, c := range cs[:cap(cs)] {
		x := api.Clause{Head: wholeAtom(c.Head), Tests: slices.Clone(c.Tests[:cap(c.Tests)])}
		for _, y := range c.Body[:cap(c.Body)] {
			x.Body = append(x.Body, wholeAtom(y))
		}
		out = append(out, x)
	}
	return out
}

func wholeProof(of api.Proof) api.Proof {
	out := api.Proof{Rules: wholeClauses(of.Rules)}
	for _, s := range of.Steps[:cap(of.Steps)] {
		out.Steps = append(out.Steps, api.Step{Rule: s.Rule, Vals: slices.Clone(s.Vals[:cap(s.Vals)]), Uses: slices.Clone(s.Uses[:cap(s.Uses)])})
	}
	return out
}

func fill[T any](l []T, mark T) {
	l = l[:cap(l)]
	for i := range l {
		l[i] = mark
	}
}

// wantApart: no two of the lists share memory, spare room too. All are written over.
func wantApart[T any](t *testing.T, what string, lists [][]T, mark func(int) T, same func(x, y T) bool) {
	t.Helper()
	for i, l := range lists {
		fill(l, mark(i))
	}
	for i, l := range lists {
		if slices.ContainsFunc(l[:cap(l)], func(x T) bool { return !same(x, mark(i)) }) {
			t.Errorf("R3: two lists of %s share memory", what)
			return
		}
	}
}

// lists: all lists of clauses, derivations and answers, by what they are lists of.
type lists struct {
	terms   [][]api.Term
	atoms   [][]api.Atom
	tests   [][]api.Test
	clauses [][]api.Clause
	steps   [][]api.Step
	numbers [][]int
}

func (l *lists) takeAtoms(of []api.Atom) {
	l.atoms = append(l.atoms, of)
	for _, x := range of[:cap(of)] {
		l.terms = append(l.terms, x.Args)
	}
}

func (l *lists) takeClauses(cs []api.Clause) {
	l.clauses = append(l.clauses, cs)
	for _, c := range cs[:cap(cs)] {
		l.terms = append(l.terms, c.Head.Args)
		l.tests = append(l.tests, c.Tests)
		l.takeAtoms(c.Body)
	}
}

func (l *lists) takeProof(of api.Proof) {
	l.takeClauses(of.Rules)
	l.steps = append(l.steps, of.Steps)
	for _, s := range of.Steps[:cap(of.Steps)] {
		l.terms = append(l.terms, s.Vals)
		l.numbers = append(l.numbers, s.Uses)
	}
}

func (l *lists) wantApart(t *testing.T) {
	t.Helper()
	wantApart(t, "terms", l.terms, func(i int) api.Term { return num(1000 + i) }, func(x, y api.Term) bool { return x == y })
	wantApart(t, "tests", l.tests, func(i int) api.Test { return api.Test{Op: 1000 + i} }, func(x, y api.Test) bool { return x == y })
	wantApart(t, "numbers", l.numbers, func(i int) int { return 1000 + i }, func(x, y int) bool { return x == y })
	wantApart(t, "atoms", l.atoms, func(i int) api.Atom { return p(num(i)) }, sameAtom)
	wantApart(t, "clauses", l.clauses, func(i int) api.Clause { return rule(p(num(i))) }, sameClause)
	wantApart(t, "steps", l.steps, func(i int) api.Step { return api.Step{Rule: 1000 + i} }, sameStep)
}

// someProofs: such as hold and such as don't, for every reason.
func someProofs(t *testing.T) []api.Proof {
	t.Helper()
	full, _ := fullDerivation()
	proofs := []api.Proof{{}, mayBob(t), full, derivation(friendRules(t)), derivation(nil, step(0, terms(a), 0))}
	for _, f := range allFaults() {
		bad := fine()
		f.lay(&bad)
		proofs = append(proofs, derivation(faultRules(), append(aheadSteps(), fine(), bad)...))
	}
	for seed := range int64(40) {
		c := newChosen(seed)
		follows := c.derivation(c.program())
		spoilt := clone(follows)
		c.spoil(&spoilt)
		proofs = append(proofs, follows, spoilt)
	}
	return proofs
}

// TestArgumentsStay: behind each call; and what becomes of them isn't seen.
func TestArgumentsStay(t *testing.T) {
	for _, of := range someProofs(t) {
		want, wantErr := plainConclude(of)
		goal := p(a)
		if len(want) > 0 {
			goal = want[len(want)-1]
		}
		for _, cs := range [][]api.Clause{of.Rules, friendRules(t), nil} {
			x, l, f := sparedProof(of), sparedClauses(cs), spared(goal)
			before, clausesBefore, goalBefore := wholeProof(x), wholeClauses(l), wholeAtom(f)
			got, err := check.Conclude(x)
			checked := check.Check(l, x, f)
			if !sameProof(wholeProof(x), before) || !slices.EqualFunc(wholeClauses(l), clausesBefore, sameClause) || !sameAtom(wholeAtom(f), goalBefore) {
				t.Errorf("R3: what was handed in has changed: %v", of)
			}
			var all lists
			all.takeProof(x)
			all.takeClauses(l)
			all.terms = append(all.terms, f.Args)
			all.wantApart(t) // all is written over
			if !same(got, want) || err != wantErr || checked != plainCheck(cs, of, goal) {
				t.Errorf("R3: what was answered of %v has changed with it: %v, %d, %d", of, got, err, checked)
			}
			wantPlain(t, append(rules(rule(p(a))), of.Rules...), of, map[api.Errno]int{}) // nothing was kept
		}
	}
}

// TestFactsAreNewMemory: each list of several answers, each fact's arguments, and none is an argument's.
func TestFactsAreNewMemory(t *testing.T) {
	var all lists
	facts := 0
	for _, of := range someProofs(t) {
		x := sparedProof(of)
		for range 2 {
			got, _ := check.Conclude(x)
			all.takeAtoms(got)
			facts += len(got)
		}
		all.takeProof(x)
	}
	if facts < 500 {
		t.Errorf("only %d facts", facts)
	}
	all.wantApart(t)
}

// TestSharedArguments: lists that are handed in may share memory with one another; those of an answer don't.
func TestSharedArguments(t *testing.T) {
	args := terms(a, b, a, b)
	vars := terms(v(0), v(1), v(0))
	body := atoms(p(vars[:2]...), p(vars[:2]...))
	rs := rules(rule(p(args[:2]...)), rule(q(vars...), body...), rule(q(vars[:2]...), body[:1]...), rule(p(args[:2]...)))
	of := derivation(rs, step(0, args[:0]), step(3, args[:0]), step(1, args[:2], 0, 1), step(2, args[2:], 0), step(1, args[2:], 0, 0), step(0, nil))
	want := atoms(p(a, b), p(a, b), q(a, b, a), q(a, b), q(a, b, a), p(a, b))
	var all lists
	for range 3 {
		got, err := check.Conclude(of)
		if !same(got, want) || err != api.OK {
			t.Fatalf("P12.1: %v, %d", got, err)
		}
		all.takeAtoms(got)
	}
	all.terms = append(all.terms, args, vars)
	all.atoms = append(all.atoms, body)
	all.wantApart(t)
	// The clauses and the goal may be the derivation's own.
	of = mayBob(t)
	of.Rules = append(of.Rules, rule(may(bob)))
	wantCheck(t, of.Rules, of, of.Rules[4].Head, api.OK)
}
