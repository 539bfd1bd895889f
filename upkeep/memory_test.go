package upkeep_test

import (
	"slices"
	"testing"

	"hearsay/api"
	"hearsay/upkeep"
)

// P17.8, R3: what is handed in stays, its spare room too, and isn't kept; what is answered is new memory.

// withRoom: a copy of l with spare room behind it that isn't zero.
func withRoom[T any](l []T, behind ...T) []T {
	return append(append(make([]T, 0, len(l)+len(behind)), l...), behind...)[:len(l)]
}

func spared(x api.Atom) api.Atom {
	x.Args = withRoom(x.Args, num(71), b, v(3), ann)
	return x
}

// sparedClause: a copy each of whose lists has spare room that isn't zero.
func sparedClause(c api.Clause) api.Clause {
	out := api.Clause{Head: spared(c.Head)}
	for _, x := range c.Body {
		out.Body = append(out.Body, spared(x))
	}
	out.Body = withRoom(out.Body, p(a), by(ann, q(v(0), v(1))))
	out.Tests = withRoom(c.Tests, test(api.OpEq, a, b), test(9, v(0), none))
	return out
}

func wholeAtom(x api.Atom) api.Atom {
	x.Args = slices.Clone(x.Args[:cap(x.Args)])
	return x
}

// wholeClause: with all spare room taken in, in new memory.
func wholeClause(c api.Clause) api.Clause {
	out := api.Clause{Head: wholeAtom(c.Head), Tests: slices.Clone(c.Tests[:cap(c.Tests)])}
	for _, x := range c.Body[:cap(c.Body)] {
		out.Body = append(out.Body, wholeAtom(x))
	}
	return out
}

func fill[T any](l []T, mark T) {
	l = l[:cap(l)]
	for i := range l {
		l[i] = mark
	}
}

// wantApart: no two of the lists share memory, spare room too. All are written over.
func wantApart[T any](t *testing.T, what string, lists [][]T, mark func(int) T, same func(x, y T) bool) {
	t.Helper()
	for i, l := range lists {
		fill(l, mark(i))
	}
	for i, l := range lists {
		if slices.ContainsFunc(l[:cap(l)], func(x T) bool { return !same(x, mark(i)) }) {
			t.Errorf("R3: two lists of %s share memory", what)
			return
		}
	}
}

// lists: all lists of clauses and atoms, by what they are lists of.
type lists struct {
	terms   [][]api.Term
	atoms   [][]api.Atom
	tests   [][]api.Test
	clauses [][]api.Clause
}

func (l *lists) takeAtoms(of []api.Atom) {
	l.atoms = append(l.atoms, of)
	for _, x := range of[:cap(of)] {
		l.terms = append(l.terms, x.Args)
	}
}

func (l *lists) takeClauses(cs []api.Clause) {
	l.clauses = append(l.clauses, cs)
	for _, c := range cs[:cap(cs)] {
		l.terms = append(l.terms, c.Head.Args)
		l.tests = append(l.tests, c.Tests)
		l.takeAtoms(c.Body)
	}
}

func (l *lists) takeChange(x api.Change) {
	l.takeAtoms(x.Came)
	l.takeAtoms(x.Gone)
}

func (l *lists) takeLooks(x looked) {
	l.takeClauses(x.clauses)
	l.takeAtoms(x.facts)
	for _, y := range x.answers {
		l.takeAtoms(y)
	}
}

// wantApart: of all lists; all are written over.
func (l *lists) wantApart(t *testing.T) {
	t.Helper()
	wantApart(t, "terms", l.terms, func(i int) api.Term { return num(1000 + i) }, func(x, y api.Term) bool { return x == y })
	wantApart(t, "tests", l.tests, func(i int) api.Test { return api.Test{Op: 1000 + i} }, func(x, y api.Test) bool { return x == y })
	wantApart(t, "atoms", l.atoms, func(i int) api.Atom { return p(num(i)) }, sameAtom)
	wantApart(t, "clauses", l.clauses, func(i int) api.Clause { return rule(p(num(i))) }, sameClause)
}

// calls: a clause that comes or goes, by turns; with some that are refused.
func (c *chosen) calls(n int) []api.Clause {
	pool := c.pool(8, 10)
	var cs []api.Clause
	for range n {
		if c.Intn(8) == 0 {
			cs = append(cs, one(c, refusals()...).c)
		} else {
			cs = append(cs, one(c, pool...))
		}
	}
	return cs
}

// TestArgumentsStay: as they are, their spare room too; and what becomes of them afterwards isn't seen.
func TestArgumentsStay(t *testing.T) {
	for seed := range int64(30) {
		c := newChosen(seed)
		k, untouched := upkeep.New(), upkeep.New()
		for _, x := range c.calls(40) {
			goes := c.Intn(3) == 0
			given := sparedClause(x)
			before := wholeClause(given)
			change, err := call(k, given, goes)
			if !sameClause(wholeClause(given), before) {
				t.Errorf("P17.8: what was handed in has changed: %v", x)
			}
			var l lists
			l.takeClauses([]api.Clause{given})
			l.wantApart(t) // all is written over
			if want, wantErr := call(untouched, x, goes); err != wantErr || !sameChange(change, want) {
				t.Errorf("R3: the change by %v is %v, %d, want %v, %d", x, change, err, want, wantErr)
			}
			if !looks(k, asking()).same(looks(untouched, asking())) {
				t.Errorf("R3: what became of %v afterwards is seen", x)
			}
		}
	}
}

// TestAsked: the atoms of Has and Answers stay, too; and what they tell doesn't hang on their spare room.
func TestAsked(t *testing.T) {
	w := watchOf(t, "p(1, 1). p(1, a). ann says p(a). p. q(X) :- p(X, Y). e(X, Y) :- q(X), p(X, Y).")
	for _, x := range slices.Concat(asking(), oddAtoms(), nearFacts(), atoms(p(num(1), v(0)), p(num(1), a), p(num(1)), p())) {
		wantHas, want := w.k.Has(x), w.k.Answers(x)
		given := spared(x)
		before := wholeAtom(given)
		answers := w.k.Answers(given)
		if w.k.Has(given) != wantHas || !same(answers, want) || !sameAtom(wholeAtom(given), before) {
			t.Errorf("P17.8: Has and Answers of %v, with spare room", x)
		}
		fill(given.Args, bob)
		if !same(answers, want) {
			t.Errorf("R3: the answers of %v lean on what was handed in", x)
		}
		w.look(api.Change{})
	}
}

// TestAnswersAreNewMemory: each list in a change, in Clauses, Facts and Answers; and what was handed in.
func TestAnswersAreNewMemory(t *testing.T) {
	c := newChosen(3)
	k, other := upkeep.New(), upkeep.New()
	var all lists
	for _, x := range c.calls(120) {
		goes := c.Intn(3) == 0
		given := sparedClause(x)
		change, _ := call(k, given, goes)
		call(other, x, goes)
		all.takeChange(change)
		all.takeClauses([]api.Clause{given})
		all.takeLooks(looks(k, asking()))
		all.takeLooks(looks(k, asking()[6:]))
	}
	if len(all.terms) < 5000 || len(all.atoms) < 2000 || len(all.clauses) < 200 || len(all.tests) < 200 {
		t.Errorf("just %d lists of terms, %d of atoms, %d of clauses, %d of tests", len(all.terms), len(all.atoms), len(all.clauses), len(all.tests))
	}
	all.wantApart(t)
	// All that was told or handed in has been written over.
	if !looks(k, asking()).same(looks(other, asking())) {
		t.Error("R3: what is written into answers is seen in later ones")
	}
	for _, x := range other.Clauses() {
		want, wantErr := other.Remove(x)
		if got, err := k.Remove(x); err != wantErr || !sameChange(got, want) {
			t.Errorf("R3: what is written into answers is seen in a later change: %v, %d, want %v, %d", got, err, want, wantErr)
		}
	}
	if len(k.Facts()) != 0 || len(k.Clauses()) != 0 {
		t.Error("P17.4: something is left")
	}
}

// TestOneFactInManyAnswers: what came, went, and is looked at is the same fact in memory of its own.
func TestOneFactInManyAnswers(t *testing.T) {
	c := sparedClause(rule(p(a, num(1))))
	k := upkeep.New()
	var all lists
	for range 3 {
		came, _ := k.Add(c)
		all.takeChange(came)
		all.takeLooks(looks(k, atoms(p(a, num(1)), p(v(0), v(1)))))
		gone, _ := k.Remove(c)
		all.takeChange(gone)
		if !same(came.Came, atoms(c.Head)) || !same(gone.Gone, atoms(c.Head)) {
			t.Errorf("P17.2, P17.3: %v, %v", came, gone)
		}
	}
	all.terms = append(all.terms, c.Head.Args)
	all.wantApart(t)
}

// copied: in memory of their own.
func copied(l []api.Atom) []api.Atom {
	var out []api.Atom
	for _, x := range l {
		x.Args = slices.Clone(x.Args)
		out = append(out, x)
	}
	return out
}

// TestStillAsAnswered: what was told stays as it was, whatever the upkeep does afterwards.
func TestStillAsAnswered(t *testing.T) {
	c := newChosen(11)
	pool := c.pool(10, 14)
	k := keptOf(t, pool)
	first, want := looks(k, asking()), looks(keptOf(t, c.mixed(pool)), asking())
	var changes, copies []api.Change
	for range 3 {
		for _, goes := range []bool{true, false} {
			for _, x := range c.mixed(pool) {
				change, err := call(k, x, goes)
				if err != api.OK {
					t.Errorf("P17.2, P17.3: %d", err)
				}
				changes = append(changes, change)
				copies = append(copies, api.Change{Came: copied(change.Came), Gone: copied(change.Gone)})
			}
		}
	}
	if !first.same(want) || !slices.EqualFunc(changes, copies, sameChange) {
		t.Error("R3: what was told has changed")
	}
}
