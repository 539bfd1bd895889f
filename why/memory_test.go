package why_test

import (
	"slices"
	"testing"

	"hearsay/api"
)

// P13.7, R3: what is handed in stays, its spare room too, and isn't kept; what is answered is new memory.

// withRoom: a copy of l with spare room behind it that isn't zero.
func withRoom[T any](l []T, behind ...T) []T {
	return append(append(make([]T, 0, len(l)+len(behind)), l...), behind...)[:len(l)]
}

func spared(x api.Atom) api.Atom {
	x.Args = withRoom(x.Args, num(71), b, v(3), ann)
	return x
}

// sparedClauses: copies each of whose lists has spare room that isn't zero.
func sparedClauses(cs []api.Clause) []api.Clause {
	var out []api.Clause
	for _, c := range cs {
		x := api.Clause{Head: spared(c.Head)}
		for _, y := range c.Body {
			x.Body = append(x.Body, spared(y))
		}
		x.Body = withRoom(x.Body, p(a), by(ann, q(v(0), v(1))))
		x.Tests = withRoom(c.Tests, test(api.OpEq, a, b), test(9, v(0), none))
		out = append(out, x)
	}
	return withRoom(out, rule(p(b)), rule(q(v(5))), api.Clause{})
}

func wholeAtom(x api.Atom) api.Atom {
	x.Args = slices.Clone(x.Args[:cap(x.Args)])
	return x
}

// wholeClauses: the clauses with all spare room taken in, in new memory.
func wholeClauses(cs []api.Clause) []api.Clause {
	var out []api.Clause
	for _, c := range cs[:cap(cs)] {
		x := api.Clause{Head: wholeAtom(c.Head), Tests: slices.Clone(c.Tests[:cap(c.Tests)])}
		for _, y := range c.Body[:cap(c.Body)] {
			x.Body = append(x.Body, wholeAtom(y))
		}
		out = append(out, x)
	}
	return out
}

func fill[T any](l []T, mark T) {
	l = l[:cap(l)]
	for i := range l {
		l[i] = mark
	}
}

// wantApart: no two of the lists share memory, spare room too. All are written over.
func wantApart[T any](t *testing.T, what string, lists [][]T, mark func(int) T, same func(x, y T) bool) {
	t.Helper()
	for i, l := range lists {
		fill(l, mark(i))
	}
	for i, l := range lists {
		if slices.ContainsFunc(l[:cap(l)], func(x T) bool { return !same(x, mark(i)) }) {
			t.Errorf("R3: two lists of %s share memory", what)
			return
		}
	}
}

// lists: all lists of clauses and facts, by what they are lists of.
type lists struct {
	terms   [][]api.Term
	atoms   [][]api.Atom
	tests   [][]api.Test
	clauses [][]api.Clause
}

func (l *lists) takeAtoms(of []api.Atom) {
	l.atoms = append(l.atoms, of)
	for _, x := range of[:cap(of)] {
		l.terms = append(l.terms, x.Args)
	}
}

func (l *lists) takeClauses(cs []api.Clause) {
	l.clauses = append(l.clauses, cs)
	for _, c := range cs[:cap(cs)] {
		l.terms = append(l.terms, c.Head.Args)
		l.tests = append(l.tests, c.Tests)
		l.takeAtoms(c.Body)
	}
}

func (l *lists) take(x answers) {
	l.takeClauses(x.support)
	l.takeClauses(x.needed)
	l.takeClauses(x.left)
	l.takeAtoms(x.lost)
}

func (l *lists) wantApart(t *testing.T) {
	t.Helper()
	wantApart(t, "terms", l.terms, func(i int) api.Term { return num(1000 + i) }, func(x, y api.Term) bool { return x == y })
	wantApart(t, "tests", l.tests, func(i int) api.Test { return api.Test{Op: 1000 + i} }, func(x, y api.Test) bool { return x == y })
	wantApart(t, "atoms", l.atoms, func(i int) api.Atom { return p(num(i)) }, sameAtom)
	wantApart(t, "clauses", l.clauses, func(i int) api.Clause { return rule(p(num(i))) }, sameClause)
}

// asked: a program, and a fact and a name to ask about.
type asked struct {
	cs []api.Clause
	f  api.Atom
	u  string
}

// someAsked: with every kind of clause and of answer, refusals too.
func someAsked(t *testing.T) []asked {
	t.Helper()
	tests := readAll(t, "p(a, b) :- q(V0, V1), V0 != V1, 1 < 2.", "q(a, b).", "q(b, a) :- 1 < 2.", "ann says p(V0) :- V1 says p(V0).", "bob says p(a).", "p(a, b) :- q(V0, V1), q(V1, V0), V0 <= V1, 3 < 4.", "ann says q(V0, V1) :- q(V1, V0).")
	cs, f := wide(5)
	l := []asked{{nil, p(), "ann"}, {exampleList(t), atom("s"), "ann"}, {exampleSayings(t), by(ann, atom("good", b)), "bob"}, {tests, p(a, b), "ann"}, {tests, by(ann, p(a)), "bob"}, {cs, f, ""},
		{tests, p(v(0), v(1)), "ann"}, {clausesOf(refusals()), p(a, b), "ann"}}
	for seed := range int64(25) {
		cs := newChosen(seed).program()
		for i, f := range plainModel(cs).inOrder() {
			if i%3 == 0 {
				l = append(l, asked{cs, f, []string{"ann", "bob"}[i%2]})
			}
		}
	}
	return l
}

// TestArgumentsStay: as they are, their spare room too; and what becomes of them isn't seen in the answers.
func TestArgumentsStay(t *testing.T) {
	for _, x := range someAsked(t) {
		want := answersOf(x.cs, x.f, x.u)
		cs, f := sparedClauses(x.cs), spared(x.f)
		beforeClauses, before := wholeClauses(cs), wholeAtom(f)
		got := answersOf(cs, f, x.u)
		if !sameClauses(wholeClauses(cs), beforeClauses) || !sameAtom(wholeAtom(f), before) {
			t.Errorf("P13.7: what was handed in has changed: of %q, %v", told(x.cs), x.f)
		}
		var all lists
		all.takeClauses(cs)
		all.terms = append(all.terms, f.Args)
		all.wantApart(t) // all is written over
		if !got.same(want) {
			t.Errorf("R3: of %q and %v, %s: %v, want %v", told(x.cs), x.f, x.u, got, want)
		}
	}
}

// TestAnswersAreNewMemory: each list of each answer, and of what was handed in.
func TestAnswersAreNewMemory(t *testing.T) {
	var all lists
	for _, x := range someAsked(t) {
		cs, f := sparedClauses(x.cs), spared(x.f)
		all.take(answersOf(cs, f, x.u))
		all.take(answersOf(cs, f, "carl"))
		all.takeClauses(cs)
		all.terms = append(all.terms, f.Args)
	}
	all.wantApart(t)
	if cs, f := exampleList(t), atom("s"); !answersOf(cs, f, "").same(answers{support: plainSupport(cs, f), needed: plainNeeded(cs, f), left: cs}) {
		t.Error("R3: other answers when earlier ones have been written over")
	}
}

// TestClausesThatShareMemory: atoms and clauses of a list that is handed in may share memory; those of the answers don't.
func TestClausesThatShareMemory(t *testing.T) {
	args := terms(a, b)
	body := atoms(q(args...), by(bob, q(args...)))
	cs := rules(rule(p(args...), body...), rule(by(ann, p(args...)), body...), rule(q(args...)), rule(by(bob, q(args...))), rule(atom("r", args...), p(args...), by(ann, p(args...))))
	var all lists
	for _, f := range atoms(p(args...), by(ann, p(args...)), atom("r", args...)) {
		x := answersOf(cs, f, "bob")
		if len(x.support) < 3 || len(x.needed) < 3 || len(x.lost) < 3 || len(x.left) != 4 {
			t.Errorf("%v: %v", f, x)
		}
		all.take(x)
	}
	all.terms = append(all.terms, args)
	all.atoms = append(all.atoms, body)
	all.wantApart(t)
}
