package subsume_test

import (
	"slices"
	"testing"

	"hearsay/api"
	"hearsay/subsume"
)

// P14.7, R3: what is handed in stays, its spare room too, and isn't kept; what is answered is new memory.

// withRoom: a copy of l with spare room behind it that isn't zero.
func withRoom[T any](l []T, behind ...T) []T {
	return append(append(make([]T, 0, len(l)+len(behind)), l...), behind...)[:len(l)]
}

func spared(x api.Atom) api.Atom {
	x.Args = withRoom(x.Args, num(71), b, v(3), ann)
	return x
}

// sparedClauses: copies each of whose lists has spare room that isn't zero.
func sparedClauses(cs []api.Clause) []api.Clause {
	var out []api.Clause
	for _, c := range cs {
		x := api.Clause{Head: spared(c.Head)}
		for _, y := range c.Body {
			x.Body = append(x.Body, spared(y))
		}
		x.Body = withRoom(x.Body, p(a), by(ann, q(v(0), v(1))))
		x.Tests = withRoom(c.Tests, test(api.OpEq, a, b), test(9, v(0), none))
		out = append(out, x)
	}
	return withRoom(out, rule(p(b)), rule(q(v(5))), api.Clause{})
}

func wholeAtom(x api.Atom) api.Atom {
	x.Args = slices.Clone(x.Args[:cap(x.Args)])
	return x
}

// wholeClauses: the clauses with all spare room taken in, in new memory.
func wholeClauses(cs []api.Clause) []api.Clause {
	var out []api.Clause
	for _, c := range cs[:cap(cs)] {
		x := api.Clause{Head: wholeAtom(c.Head), Tests: slices.Clone(c.Tests[:cap(c.Tests)])}
		for _, y := range c.Body[:cap(c.Body)] {
			x.Body = append(x.Body, wholeAtom(y))
		}
		out = append(out, x)
	}
	return out
}

func fill[T any](l []T, mark T) {
	l = l[:cap(l)]
	for i := range l {
		l[i] = mark
	}
}

// wantApart: no two of the lists share memory, spare room too. All are written over.
func wantApart[T any](t *testing.T, what string, lists [][]T, mark func(int) T, same func(x, y T) bool) {
	t.Helper()
	for i, l := range lists {
		fill(l, mark(i))
	}
	for i, l := range lists {
		if slices.ContainsFunc(l[:cap(l)], func(x T) bool { return !same(x, mark(i)) }) {
			t.Errorf("R3: two lists of %s share memory", what)
			return
		}
	}
}

// lists: all lists of clauses and values, by what they are lists of.
type lists struct {
	terms   [][]api.Term
	atoms   [][]api.Atom
	tests   [][]api.Test
	clauses [][]api.Clause
}

func (l *lists) takeAtoms(of []api.Atom) {
	l.atoms = append(l.atoms, of)
	for _, x := range of[:cap(of)] {
		l.terms = append(l.terms, x.Args)
	}
}

func (l *lists) takeClause(c api.Clause) {
	l.terms = append(l.terms, c.Head.Args)
	l.tests = append(l.tests, c.Tests)
	l.takeAtoms(c.Body)
}

func (l *lists) takeClauses(cs []api.Clause) {
	l.clauses = append(l.clauses, cs)
	for _, c := range cs[:cap(cs)] {
		l.takeClause(c)
	}
}

// take: the answers.
func (l *lists) take(x asked) {
	l.takeClauses(x.left)
	for _, c := range x.less {
		l.takeClause(c)
	}
	for _, y := range x.vals {
		l.terms = append(l.terms, y.vals)
	}
}

func (l *lists) wantApart(t *testing.T) {
	t.Helper()
	wantApart(t, "terms", l.terms, func(i int) api.Term { return num(1000 + i) }, func(x, y api.Term) bool { return x == y })
	wantApart(t, "tests", l.tests, func(i int) api.Test { return api.Test{Op: 1000 + i} }, func(x, y api.Test) bool { return x == y })
	wantApart(t, "atoms", l.atoms, func(i int) api.Atom { return p(num(i)) }, sameAtom)
	wantApart(t, "clauses", l.clauses, func(i int) api.Clause { return rule(p(num(i))) }, sameClause)
}

// someLists: with every kind of clause and of answer, refusals too.
func someLists(t *testing.T) [][]api.Clause {
	t.Helper()
	l := [][]api.Clause{nil, clausesOf(refusals()),
		readAll(t, "p(V0) :- q(V0).", "p(a) :- q(a).", "p(V0) :- q(V0), q(V1).", "p(b)."),
		readAll(t, "p(a, b) :- e(V0, V1), e(V1, V0), V0 != V1, 1 < 2.", "p(a, b) :- e(b, a), e(a, b).", "p(a, b) :- V0 says e(V1, V2), ann says e(a, a), e(V1, V2), V1 != V2, V1 != V2."),
		readAll(t, "p(1, 2).", "p(1, 2) :- 1 < 2, 2 < 3.", "ann says p(V0) :- q(V0), bob says q(V0), V1 says q(V0).", "p(1, 2) :- q(V0), q(V1), q(V2), r(V2, V1).")}
	for seed := range int64(40) {
		l = append(l, newChosen(seed).family(5))
	}
	return l
}

// TestArgumentsStay: as they are, their spare room too; and what becomes of them isn't seen in the answers.
func TestArgumentsStay(t *testing.T) {
	for _, l := range someLists(t) {
		want := ask(l)
		cs := sparedClauses(l)
		before := wholeClauses(cs)
		got := ask(cs)
		if !sameClauses(wholeClauses(cs), before) {
			t.Errorf("P14.7: what was handed in has changed: of %q", told(l))
		}
		var all lists
		all.takeClauses(cs)
		all.wantApart(t) // all is written over
		if !got.same(want) {
			t.Errorf("R3: of %q: %v, want %v", told(l), got, want)
		}
	}
}

// TestAnswersAreNewMemory: each list of each answer, and of what was handed in.
func TestAnswersAreNewMemory(t *testing.T) {
	var all lists
	for _, l := range someLists(t) {
		cs := sparedClauses(l)
		all.take(ask(cs))
		all.take(ask(cs))
		all.takeClauses(cs)
	}
	if len(all.terms) < 5000 {
		t.Errorf("just %d lists of terms", len(all.terms))
	}
	all.wantApart(t)
	// Earlier answers have been written over.
	wantReduced(t, readAll(t, "p.", "p :- q."), "p.")
	wantCondensed(t, "p :- q(V0), q(a).", "p :- q(a).")
	wantValues(t, "p :- q(V0).", "p :- q(a).", "a")
}

// TestClausesThatShareMemory: atoms and clauses of a list that is handed in may share memory; those of the answers don't.
func TestClausesThatShareMemory(t *testing.T) {
	args := terms(a, b)
	body := atoms(q(args...), by(bob, q(args...)), q(args...))
	tests := []api.Test{test(api.OpEq, num(2), num(1)), test(api.OpEq, num(2), num(1))}
	cs := rules(with(rule(p(args...), body...), tests...), with(rule(by(ann, p(args...)), body...), tests...), rule(q(args...), body[:2]...), rule(q(args...), body[:1]...), rule(by(bob, q(args...))))
	var all lists
	for range 3 {
		x := ask(cs)
		if len(x.left) != 4 || len(x.less[0].Body) != 2 || len(x.less[1].Tests) != 1 || x.err != api.OK {
			t.Errorf("%v", x)
		}
		all.take(x)
	}
	all.terms = append(all.terms, args)
	all.atoms = append(all.atoms, body)
	all.tests = append(all.tests, tests)
	all.wantApart(t)
}

// TestTheClauseItself: Condense's answer is new memory where nothing goes, too, and Reduce's where one clause is handed in.
func TestTheClauseItself(t *testing.T) {
	c := sparedClauses(readAll(t, "p(V0, a) :- e(V0, V1), q(V1), V0 != V1."))[0]
	less, _ := subsume.Condense(c)
	left, _ := subsume.Reduce(rules(c))
	vals, _ := subsume.Subsumes(c, c)
	var all lists
	all.takeClause(c)
	all.takeClause(less)
	all.takeClauses(left)
	all.terms = append(all.terms, vals)
	all.wantApart(t)
}
