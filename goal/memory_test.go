package goal_test

import (
	"slices"
	"testing"

	"hearsay/api"
	"hearsay/goal"
)

// P16.5, R3: what is handed in stays, its spare room too, and isn't kept; what is answered is new memory.

// withRoom: a copy of l with spare room behind it that isn't zero.
func withRoom[T any](l []T, behind ...T) []T {
	return append(append(make([]T, 0, len(l)+len(behind)), l...), behind...)[:len(l)]
}

func spared(x api.Atom) api.Atom {
	x.Args = withRoom(x.Args, num(71), b, v(3), ann)
	return x
}

// sparedClauses: copies each of whose lists has spare room that isn't zero.
func sparedClauses(cs []api.Clause) []api.Clause {
	var out []api.Clause
	for _, c := range cs {
		x := api.Clause{Head: spared(c.Head)}
		for _, y := range c.Body {
			x.Body = append(x.Body, spared(y))
		}
		x.Body = withRoom(x.Body, p(a), by(ann, q(v(0), v(1))))
		x.Tests = withRoom(c.Tests, test(api.OpEq, a, b), test(9, v(0), none))
		out = append(out, x)
	}
	return withRoom(out, rule(p(b)), rule(q(v(5))), api.Clause{})
}

func wholeAtom(x api.Atom) api.Atom {
	x.Args = slices.Clone(x.Args[:cap(x.Args)])
	return x
}

// wholeClauses: the clauses with all spare room taken in, in new memory.
func wholeClauses(cs []api.Clause) []api.Clause {
	var out []api.Clause
	for _, c := range cs[:cap(cs)] {
		x := api.Clause{Head: wholeAtom(c.Head), Tests: slices.Clone(c.Tests[:cap(c.Tests)])}
		for _, y := range c.Body[:cap(c.Body)] {
			x.Body = append(x.Body, wholeAtom(y))
		}
		out = append(out, x)
	}
	return out
}

func fill[T any](l []T, mark T) {
	l = l[:cap(l)]
	for i := range l {
		l[i] = mark
	}
}

// wantApart: no two of the lists share memory, spare room too. All are written over.
func wantApart[T any](t *testing.T, what string, lists [][]T, mark func(int) T, same func(x, y T) bool) {
	t.Helper()
	for i, l := range lists {
		fill(l, mark(i))
	}
	for i, l := range lists {
		if slices.ContainsFunc(l[:cap(l)], func(x T) bool { return !same(x, mark(i)) }) {
			t.Errorf("R3: two lists of %s share memory", what)
			return
		}
	}
}

// lists: all lists of clauses, atoms and goals, by what they are lists of.
type lists struct {
	terms   [][]api.Term
	atoms   [][]api.Atom
	tests   [][]api.Test
	clauses [][]api.Clause
	calls   [][]api.Call
}

func (l *lists) takeAtoms(of []api.Atom) {
	l.atoms = append(l.atoms, of)
	for _, x := range of[:cap(of)] {
		l.terms = append(l.terms, x.Args)
	}
}

func (l *lists) takeClauses(cs []api.Clause) {
	l.clauses = append(l.clauses, cs)
	for _, c := range cs[:cap(cs)] {
		l.terms = append(l.terms, c.Head.Args)
		l.tests = append(l.tests, c.Tests)
		l.takeAtoms(c.Body)
	}
}

// take: the answers of both calls.
func (l *lists) take(x asked) {
	l.takeAtoms(x.answers)
	l.calls = append(l.calls, x.calls)
	for _, c := range x.calls[:cap(x.calls)] {
		l.terms = append(l.terms, c.Goal.Args)
		l.takeAtoms(c.Answers)
	}
}

func (l *lists) wantApart(t *testing.T) {
	t.Helper()
	wantApart(t, "terms", l.terms, func(i int) api.Term { return num(1000 + i) }, func(x, y api.Term) bool { return x == y })
	wantApart(t, "tests", l.tests, func(i int) api.Test { return api.Test{Op: 1000 + i} }, func(x, y api.Test) bool { return x == y })
	wantApart(t, "atoms", l.atoms, func(i int) api.Atom { return p(num(i)) }, sameAtom)
	wantApart(t, "clauses", l.clauses, func(i int) api.Clause { return rule(p(num(i))) }, sameClause)
	wantApart(t, "goals", l.calls, func(i int) api.Call { return api.Call{Goal: p(num(i))} }, sameCall)
}

// question: clauses, and what is asked of them.
type question struct {
	cs    []api.Clause
	query api.Atom
}

// someQuestions: with every kind of clause and of answer, refusals too.
func someQuestions(t *testing.T) []question {
	t.Helper()
	facts := program(t, "p. p(a, b). ann says p(1). q(a). q(b).")
	l := []question{
		{nil, p(a, v(7))}, {facts, p(a, b)}, {facts, by(v(3), p(v(4)))}, {facts, q(v(2))}, {facts, p()},
		{program(t, paths), atom("path", v(3), v(9))}, {program(t, paths), atom("path", a, v(9))},
		{program(t, "r(X) :- q(X), X says s(X). q(5). q(ann). ann says s(ann)."), atom("r", v(1))},
		{clausesOf(refusals()), p(a, b)}, {facts, p(none, a)}, {numbered("n", 0, 1001), p(a)}, {tooGreat(t), atom("g")}, {tooGreat(t), p(v(0))},
	}
	for seed := range int64(120) {
		c := newChosen(seed)
		cs := c.clauses()
		l = append(l, question{cs, c.query(cs)})
	}
	return l
}

// TestArgumentsStay: as they are, their spare room too; and what becomes of them isn't seen in the answers.
func TestArgumentsStay(t *testing.T) {
	for _, x := range someQuestions(t) {
		want := ask(x.cs, x.query)
		cs, query := sparedClauses(x.cs), spared(x.query)
		before, asked := wholeClauses(cs), wholeAtom(query)
		got := ask(cs, query)
		if !sameClauses(wholeClauses(cs), before) || !sameAtom(wholeAtom(query), asked) {
			t.Errorf("P16.5: what was handed in has changed: %q, %s", told(x.cs), toldAtom(x.query))
		}
		var all lists
		all.takeClauses(cs)
		all.takeAtoms(atoms(query))
		all.wantApart(t) // all is written over
		if !got.same(want) {
			t.Errorf("R3: of %q, %s: %v, want %v", told(x.cs), toldAtom(x.query), got, want)
		}
	}
}

// TestAnswersAreNewMemory: each goal's arguments, each answer's, each list of answers; and what was handed in.
func TestAnswersAreNewMemory(t *testing.T) {
	var all lists
	for _, x := range someQuestions(t) {
		cs, query := sparedClauses(x.cs), spared(x.query)
		all.take(ask(cs, query))
		all.take(ask(cs, query))
		all.takeClauses(cs)
		all.takeAtoms(atoms(query))
	}
	if len(all.terms) < 5000 || len(all.atoms) < 2000 || len(all.calls) < 200 {
		t.Errorf("just %d lists of terms, %d of atoms, %d of goals", len(all.terms), len(all.atoms), len(all.calls))
	}
	all.wantApart(t)
	// Earlier answers have been written over.
	wantTable(t, program(t, "p(X) :- q(X). q(a)."), "p(X)", "p(V0): p(a)", "q(V0): q(a)")
}

// TestGroundQueries: what has no variables is copied, too: the query, its goal and its answer are three.
func TestGroundQueries(t *testing.T) {
	f := p(withRoom(terms(a, num(1)), b, b)...)
	cs := rules(rule(f), rule(q(f.Args...), f), rule(atom("r", f.Args...), q(f.Args...), f))
	var all lists
	for _, name := range texts("p", "q", "r") {
		for range 3 {
			x := ask(cs, atom(name, f.Args...))
			if len(x.answers) != 1 || !slices.Equal(x.answers[0].Args, f.Args) || x.errs != [2]api.Errno{} {
				t.Errorf("P16.2: %v", x)
			}
			all.take(x)
		}
	}
	all.terms = append(all.terms, f.Args)
	all.wantApart(t)
}

// TestOneAnswerOfTwoGoals: it stands there twice, in memory of its own.
func TestOneAnswerOfTwoGoals(t *testing.T) {
	calls, err := goal.Tables(program(t, "p(X) :- q(X, 1), q(X, 1), q(Y, 1). q(a, 1)."), p(v(0)))
	if len(calls) != 3 || err != api.OK {
		t.Fatalf("%q, %d", toldCalls(calls), err)
	}
	calls[1].Answers[0].Args[0] = bob
	if got := toldCalls(calls); !slices.Equal(got, texts("p(V0): p(a)", "q(a, 1): q(bob, 1)", "q(V0, 1): q(a, 1)")) {
		t.Errorf("R3: %q", got)
	}
}
