package imply_test

import (
	"slices"
	"testing"

	"hearsay/api"
	"hearsay/imply"
)

// P15.7, R3: what is handed in stays, its spare room too, and isn't kept; what is answered is new memory.

// withRoom: a copy of l with spare room behind it that isn't zero.
func withRoom[T any](l []T, behind ...T) []T {
	return append(append(make([]T, 0, len(l)+len(behind)), l...), behind...)[:len(l)]
}

func spared(x api.Atom) api.Atom {
	x.Args = withRoom(x.Args, num(71), b, v(3), ann)
	return x
}

// sparedClauses: copies each of whose lists has spare room that isn't zero.
func sparedClauses(cs []api.Clause) []api.Clause {
	var out []api.Clause
	for _, c := range cs {
		x := api.Clause{Head: spared(c.Head)}
		for _, y := range c.Body {
			x.Body = append(x.Body, spared(y))
		}
		x.Body = withRoom(x.Body, p(a), by(ann, q(v(0), v(1))))
		x.Tests = withRoom(c.Tests, test(api.OpEq, a, b), test(9, v(0), none))
		out = append(out, x)
	}
	return withRoom(out, rule(p(b)), rule(q(v(5))), api.Clause{})
}

func wholeAtom(x api.Atom) api.Atom {
	x.Args = slices.Clone(x.Args[:cap(x.Args)])
	return x
}

// wholeClauses: the clauses with all spare room taken in, in new memory.
func wholeClauses(cs []api.Clause) []api.Clause {
	var out []api.Clause
	for _, c := range cs[:cap(cs)] {
		x := api.Clause{Head: wholeAtom(c.Head), Tests: slices.Clone(c.Tests[:cap(c.Tests)])}
		for _, y := range c.Body[:cap(c.Body)] {
			x.Body = append(x.Body, wholeAtom(y))
		}
		out = append(out, x)
	}
	return out
}

func fill[T any](l []T, mark T) {
	l = l[:cap(l)]
	for i := range l {
		l[i] = mark
	}
}

// wantApart: no two of the lists share memory, spare room too. All are written over.
func wantApart[T any](t *testing.T, what string, lists [][]T, mark func(int) T, same func(x, y T) bool) {
	t.Helper()
	for i, l := range lists {
		fill(l, mark(i))
	}
	for i, l := range lists {
		if slices.ContainsFunc(l[:cap(l)], func(x T) bool { return !same(x, mark(i)) }) {
			t.Errorf("R3: two lists of %s share memory", what)
			return
		}
	}
}

// lists: all lists of clauses and atoms, by what they are lists of.
type lists struct {
	terms   [][]api.Term
	atoms   [][]api.Atom
	tests   [][]api.Test
	clauses [][]api.Clause
}

func (l *lists) takeAtoms(of []api.Atom) {
	l.atoms = append(l.atoms, of)
	for _, x := range of[:cap(of)] {
		l.terms = append(l.terms, x.Args)
	}
}

func (l *lists) takeClauses(cs []api.Clause) {
	l.clauses = append(l.clauses, cs)
	for _, c := range cs[:cap(cs)] {
		l.terms = append(l.terms, c.Head.Args)
		l.tests = append(l.tests, c.Tests)
		l.takeAtoms(c.Body)
	}
}

// take: the answers.
func (l *lists) take(x asked) {
	l.takeClauses(x.redundant)
	l.takeClauses(x.left)
	for _, body := range x.bodies {
		l.takeAtoms(body)
	}
	for _, head := range x.heads {
		l.terms = append(l.terms, head.Args)
	}
}

func (l *lists) wantApart(t *testing.T) {
	t.Helper()
	wantApart(t, "terms", l.terms, func(i int) api.Term { return num(1000 + i) }, func(x, y api.Term) bool { return x == y })
	wantApart(t, "tests", l.tests, func(i int) api.Test { return api.Test{Op: 1000 + i} }, func(x, y api.Test) bool { return x == y })
	wantApart(t, "atoms", l.atoms, func(i int) api.Atom { return p(num(i)) }, sameAtom)
	wantApart(t, "clauses", l.clauses, func(i int) api.Clause { return rule(p(num(i))) }, sameClause)
}

// someLists: with every kind of clause and of answer, refusals too.
func someLists(t *testing.T) [][]api.Clause {
	t.Helper()
	l := [][]api.Clause{nil, clausesOf(refusals()), tested(t), readAll(t, t1, t2, t3, t4), rules(widest()),
		readAll(t, "p.", "p(a, b).", "ann says p(1).", "p(a, b) :- q(a, b), q(a, b), ann says q(1).", "ann says p(1) :- p."),
		readAll(t, "p(f0) :- q(f0, V0), V0 says q(f1, V1), q(f1, V1).", "f1 says p(V0) :- q(V0, V0), q(V0, V1).", "f1 says p(V0) :- q(V0, V0)."),
		fours(t, 8)[:3], fours(t, 9)}
	for seed := range int64(40) {
		l = append(l, newChosen(seed).family(5))
	}
	return l
}

// asksOf: the clauses, and a few of them that are asked for; a single one isn't asked of itself, as that takes too long.
func asksOf(cs []api.Clause) ([]api.Clause, []api.Clause) {
	if len(cs) == 1 {
		return nil, cs
	}
	return cs, cs[:min(3, len(cs))]
}

// TestArgumentsStay: as they are, their spare room too; and what becomes of them isn't seen in the answers.
func TestArgumentsStay(t *testing.T) {
	for _, l := range someLists(t) {
		want := ask(asksOf(l))
		cs := sparedClauses(l)
		before := wholeClauses(cs)
		got := ask(asksOf(cs))
		if !sameClauses(wholeClauses(cs), before) {
			t.Errorf("P15.7: what was handed in has changed: of %q", told(l))
		}
		var all lists
		all.takeClauses(cs)
		all.wantApart(t) // all is written over
		if !got.same(want) {
			t.Errorf("R3: of %q: %v, want %v", told(l), got, want)
		}
	}
}

// TestAnswersAreNewMemory: each list of each answer, and of what was handed in.
func TestAnswersAreNewMemory(t *testing.T) {
	var all lists
	for _, l := range someLists(t) {
		cs := sparedClauses(l)
		all.take(ask(asksOf(cs)))
		all.take(ask(asksOf(cs)))
		all.takeClauses(cs)
	}
	if len(all.terms) < 3000 || len(all.atoms) < 1000 || len(all.clauses) < 200 {
		t.Errorf("just %d lists of terms, %d of atoms, %d of clauses", len(all.terms), len(all.atoms), len(all.clauses))
	}
	all.wantApart(t)
	// Earlier answers have been written over.
	wantMinimal(t, readAll(t, "p.", "p :- q."), "p.")
	wantRedundant(t, readAll(t, "p.", "p :- q."), "p :- q.")
	wantFrozen(t, readAll(t, "p(f0)."), read(t, "p(V0) :- q(V0)."), "q(f1)", "p(f1)")
}

// TestClausesThatShareMemory: atoms and clauses of a list that is handed in may share memory; those of the answers don't.
func TestClausesThatShareMemory(t *testing.T) {
	args := terms(v(0), a)
	body := atoms(q(args...), by(bob, q(args...)), q(args...))
	cs := rules(rule(p(args...), body...), rule(p(args...), body[:2]...), rule(by(ann, p(args...)), body...), rule(by(ann, p(args...)), body[:1]...))
	var all lists
	for range 3 {
		x := ask(cs, cs)
		if len(x.left) != 2 || len(x.redundant) != 3 || len(x.bodies[0]) != 3 {
			t.Errorf("%v", x)
		}
		all.take(x)
	}
	all.terms = append(all.terms, args)
	all.atoms = append(all.atoms, body)
	all.wantApart(t)
}

// TestFrozenGroundClause: what has no variables is copied, too.
func TestFrozenGroundClause(t *testing.T) {
	c := sparedClauses(readAll(t, "p(a, 1) :- q(a, b), ann says q(b)."))[0]
	var all lists
	for range 3 {
		body, head, err := imply.Freeze(nil, c)
		if !same(body, c.Body) || !sameAtom(head, c.Head) || err != api.OK {
			t.Errorf("P15.1: %v, %v, %d", body, head, err)
		}
		all.takeAtoms(body)
		all.terms = append(all.terms, head.Args)
	}
	all.takeClauses(rules(c))
	all.wantApart(t)
}
