package eval_test

import (
	"slices"
	"testing"

	"hearsay/api"
	"hearsay/eval"
)

// P10.10, R3.

// withRoom: a copy of l with spare room behind it that isn't zero.
func withRoom[T any](l []T, behind ...T) []T {
	return append(append(make([]T, 0, len(l)+len(behind)), l...), behind...)[:len(l)]
}

func spared(x api.Atom) api.Atom {
	x.Args = withRoom(x.Args, num(71), b, v(3), ann)
	return x
}

// sparedClause: a copy of c each of whose lists has spare room that isn't zero.
func sparedClause(c api.Clause) api.Clause {
	out := api.Clause{Head: spared(c.Head)}
	for _, x := range c.Body {
		out.Body = append(out.Body, spared(x))
	}
	out.Body = withRoom(out.Body, p(a), by(ann, q(v(0), v(1))))
	out.Tests = withRoom(c.Tests, test(api.OpEq, a, b), test(9, v(0), none))
	return out
}

func sparedClauses(cs []api.Clause) []api.Clause {
	var out []api.Clause
	for _, c := range cs {
		out = append(out, sparedClause(c))
	}
	return withRoom(out, rule(p(b)), rule(q(v(5))), api.Clause{})
}

func wholeAtom(x api.Atom) api.Atom {
	x.Args = slices.Clone(x.Args[:cap(x.Args)])
	return x
}

// wholeClause: the clause with all spare room taken in, in new memory.
func wholeClause(c api.Clause) api.Clause {
	out := api.Clause{Head: wholeAtom(c.Head), Tests: slices.Clone(c.Tests[:cap(c.Tests)])}
	for _, x := range c.Body[:cap(c.Body)] {
		out.Body = append(out.Body, wholeAtom(x))
	}
	return out
}

func wholeClauses(cs []api.Clause) []api.Clause {
	var out []api.Clause
	for _, c := range cs[:cap(cs)] {
		out = append(out, wholeClause(c))
	}
	return out
}

// sparedModel: a copy of m each of whose lists has spare room that isn't zero.
func sparedModel(m api.Model) api.Model {
	out := api.Model{Rules: sparedClauses(m.Rules), Rounds: m.Rounds}
	for _, k := range m.Facts {
		k.Fact, k.Vals = spared(k.Fact), withRoom(k.Vals, num(72), a)
		out.Facts = append(out.Facts, k)
	}
	out.Facts = withRoom(out.Facts, api.Known{Fact: p(a), Round: 77}, api.Known{Fact: p(b, b), Round: 78})
	return out
}

// wholeModel: the model with all spare room taken in, in new memory.
func wholeModel(m api.Model) api.Model {
	out := api.Model{Rules: wholeClauses(m.Rules), Rounds: m.Rounds}
	for _, k := range m.Facts[:cap(m.Facts)] {
		k.Fact, k.Vals = wholeAtom(k.Fact), slices.Clone(k.Vals[:cap(k.Vals)])
		out.Facts = append(out.Facts, k)
	}
	return out
}

func fill[T any](l []T, mark T) {
	l = l[:cap(l)]
	for i := range l {
		l[i] = mark
	}
}

// wantApart: no two of the lists share memory, spare room too. All are written over.
func wantApart[T any](t *testing.T, what string, lists [][]T, mark func(int) T, same func(x, y T) bool) {
	t.Helper()
	for i, l := range lists {
		fill(l, mark(i))
	}
	for i, l := range lists {
		if slices.ContainsFunc(l[:cap(l)], func(x T) bool { return !same(x, mark(i)) }) {
			t.Errorf("R3: two lists of %s share memory", what)
			return
		}
	}
}

// lists: all lists of clauses, models and answers, by what they are lists of.
type lists struct {
	terms   [][]api.Term
	atoms   [][]api.Atom
	tests   [][]api.Test
	clauses [][]api.Clause
	facts   [][]api.Known
}

func (l *lists) takeAtoms(of []api.Atom) {
	l.atoms = append(l.atoms, of)
	for _, x := range of[:cap(of)] {
		l.terms = append(l.terms, x.Args)
	}
}

func (l *lists) takeClauses(cs []api.Clause) {
	l.clauses = append(l.clauses, cs)
	for _, c := range cs[:cap(cs)] {
		l.terms = append(l.terms, c.Head.Args)
		l.tests = append(l.tests, c.Tests)
		l.takeAtoms(c.Body)
	}
}

func (l *lists) takeModel(m api.Model) {
	l.takeClauses(m.Rules)
	l.facts = append(l.facts, m.Facts)
	for _, k := range m.Facts[:cap(m.Facts)] {
		l.terms = append(l.terms, k.Fact.Args, k.Vals)
	}
}

func (l *lists) wantApart(t *testing.T) {
	t.Helper()
	wantApart(t, "terms", l.terms, func(i int) api.Term { return num(1000 + i) }, func(x, y api.Term) bool { return x == y })
	wantApart(t, "tests", l.tests, func(i int) api.Test { return api.Test{Op: 1000 + i} }, func(x, y api.Test) bool { return x == y })
	wantApart(t, "atoms", l.atoms, func(i int) api.Atom { return p(num(i)) }, sameAtom)
	wantApart(t, "clauses", l.clauses, func(i int) api.Clause { return rule(p(num(i))) }, sameClause)
	wantApart(t, "facts", l.facts, func(i int) api.Known { return api.Known{Round: 1000 + i} }, sameKnown)
}

// somePrograms: with facts that are given by heads with and without variables, of every kind of clause.
func somePrograms(t *testing.T) [][]api.Clause {
	t.Helper()
	programs := [][]api.Clause{nil, exampleChain(t), busy(t)[:30], readAll(t, "p(a, b) :- q(V0, V1), V0 != V1, 1 < 2.", "q(a, b).", "q(b, a) :- 1 < 2.", "ann says p(V0) :- V1 says p(V0).", "bob says p(a).", "r(V0, V0, 5) :- q(V0, V1), q(V1, V0).", "on.")}
	for seed := range int64(15) {
		programs = append(programs, newChosen(seed).program())
	}
	return programs
}

// TestTheClausesStay: as they are, their spare room too, behind both calls, refused ones too; and what becomes of them isn't seen.
func TestTheClausesStay(t *testing.T) {
	programs := append(somePrograms(t), clausesOf(refusals()), slices.Concat(busy(t), clausesOf(refusals()[5:])), facts("n", 0, 1001))
	for _, of := range programs {
		want, _ := eval.Whole(of)
		for _, fuel := range numbers(-1, 2, greatestInt) {
			cs := sparedClauses(of)
			before := wholeClauses(cs)
			eval.Whole(cs)
			m, err := eval.Run(cs, fuel, 4)
			if !slices.EqualFunc(wholeClauses(cs), before, sameClause) {
				t.Errorf("P10.10: the clauses have changed, of which %v are", syntaxAll(of))
			}
			var all lists
			all.takeClauses(cs)
			all.wantApart(t) // all is written over
			if err == api.OK && !sameModel(m, want) {
				t.Errorf("R3: the model of %v has changed with its clauses", syntaxAll(of))
			}
		}
	}
}

// TestModelsAreNewMemory: all lists of a model, of several models, and those of the clauses that were handed in.
func TestModelsAreNewMemory(t *testing.T) {
	var all lists
	for _, cs := range somePrograms(t) {
		cs = sparedClauses(cs)
		want := plainModel(wholeNoRoom(cs))
		for _, workers := range numbers(1, 4) {
			all.takeModel(must(eval.Run(cs, greatestInt, workers)))
		}
		whole := must(eval.Whole(cs))
		if !sameModel(whole, want) {
			t.Errorf("P10.5: the model of %v is %v, want %v", syntaxAll(cs), whole, want)
		}
		all.takeModel(whole)
		all.takeClauses(cs)
	}
	all.wantApart(t)
	for _, cs := range somePrograms(t) {
		wantPlain(t, cs)
	}
}

// wholeNoRoom: copies of the clauses without spare room.
func wholeNoRoom(cs []api.Clause) []api.Clause {
	var out []api.Clause
	for _, c := range cs {
		x := api.Clause{Head: c.Head, Body: slices.Clone(c.Body), Tests: slices.Clone(c.Tests)}
		x.Head.Args = slices.Clone(c.Head.Args)
		for i, y := range c.Body {
			x.Body[i].Args = slices.Clone(y.Args)
		}
		out = append(out, x)
	}
	return out
}

func must(m api.Model, err api.Errno) api.Model {
	if err != api.OK {
		panic(err)
	}
	return m
}

// TestAnswersLeaveTheModel: and what is asked, as they are, their spare room too; and what becomes of them isn't seen.
func TestAnswersLeaveTheModel(t *testing.T) {
	hand := made(p(b, b), p(a, v(0)), p(b, b), p(none, a), by(ann, p(a, a)), q(), atom("P", a, a))
	models := []api.Model{{}, hand, run(t, exampleChain(t)), run(t, busy(t))}
	for _, of := range models {
		for _, ask := range atoms(p(v(0), v(1)), p(v(0), v(0)), by(v(0), p(v(1), v(2))), q(), atom("path", num(3), v(0)), atom("edge", v(1), v(0)), atom("P", v(-1), a)) {
			m, x := sparedModel(of), spared(ask)
			beforeModel, before := wholeModel(m), wholeAtom(x)
			got := eval.Answers(m, x)
			if !sameModel(wholeModel(m), beforeModel) || !sameAtom(wholeAtom(x), before) {
				t.Errorf("R3: Answers(.., %v) changed what it was given", ask)
			}
			want := plainAnswers(of, ask)
			var all lists
			all.takeModel(m)
			all.terms = append(all.terms, x.Args)
			all.wantApart(t) // all is written over
			if !same(got, want) {
				t.Errorf("R3: Answers(.., %v) is %v, want %v", ask, got, want)
			}
		}
	}
}

// TestAnswersAreNewMemory: each list, of several answers too, and none is the model's or that of what is asked; of doubles too.
func TestAnswersAreNewMemory(t *testing.T) {
	var all lists
	l := atoms(p(b, b), p(a, b), p(b, b), by(ann, p(a, a)), p(a, b), p(), p(), p(b, a))
	shared := terms(a, a)
	for _, m := range []api.Model{made(l...), run(t, exampleChain(t)), run(t, busy(t)), made(p(a, a), p(a, a))} {
		m = sparedModel(m)
		for _, ask := range atoms(p(v(0), v(1)), p(v(0), v(1)), p(), p(a, b), by(v(0), p(v(1), v(2))), atom("path", v(0), v(1)), atom("edge", v(0), v(1))) {
			ask = spared(ask)
			all.takeAtoms(eval.Answers(m, ask))
			all.terms = append(all.terms, ask.Args)
		}
		all.takeModel(m)
	}
	// Two facts of a model made by hand may share their arguments; the answers don't.
	all.takeAtoms(eval.Answers(made(p(shared...), q(shared...), by(ann, p(shared...)), by(bob, p(shared...))), by(v(0), p(v(1), v(2)))))
	all.terms = append(all.terms, shared)
	all.wantApart(t)
}
