package upkeep_test

import (
	"slices"
	"strings"
	"testing"

	"hearsay/api"
	"hearsay/eval"
	"hearsay/syntax"
	"hearsay/upkeep"
)

const (
	leastInt    = -1 << 63
	greatestInt = 1<<63 - 1
)

var (
	none = api.Term{}
	a    = txt("a")
	b    = txt("b")
	ann  = txt("ann")
	bob  = txt("bob")
)

func num(n int) api.Term    { return api.Term{Kind: api.KindNum, N: n} }
func txt(s string) api.Term { return api.Term{Kind: api.KindText, S: s} }
func v(n int) api.Term      { return api.Term{Kind: api.KindVar, N: n} }

func long(n int) string { return strings.Repeat("a", n) }

func nTimes[T any](n int, x T) []T { return slices.Repeat([]T{x}, n) }

func atom(name string, args ...api.Term) api.Atom { return api.Atom{Name: name, Args: args} }

func p(args ...api.Term) api.Atom { return atom("p", args...) }
func q(args ...api.Term) api.Atom { return atom("q", args...) }

// by: the same atom, said by someone.
func by(who api.Term, of api.Atom) api.Atom {
	of.By = who
	return of
}

func atoms(l ...api.Atom) []api.Atom { return l }

func terms(l ...api.Term) []api.Term { return l }

func texts(l ...string) []string { return l }

func test(op int, l, r api.Term) api.Test { return api.Test{Op: op, L: l, R: r} }

func rule(head api.Atom, body ...api.Atom) api.Clause { return api.Clause{Head: head, Body: body} }

func with(c api.Clause, tests ...api.Test) api.Clause {
	c.Tests = tests
	return c
}

// numbered: the clauses name(from). to name(to - 1).
func numbered(name string, from, to int) []api.Clause {
	var cs []api.Clause
	for n := from; n < to; n++ {
		cs = append(cs, rule(atom(name, num(n))))
	}
	return cs
}

// program: the clauses of a text.
func program(t *testing.T, text string) []api.Clause {
	t.Helper()
	cs, f := syntax.Program(text)
	if f.Err != api.OK {
		t.Fatalf("%s: fault %v", text, f)
	}
	return cs
}

// clauseOf: the one of a text.
func clauseOf(t *testing.T, text string) api.Clause {
	t.Helper()
	c, f := syntax.Clause(text)
	if f.Err != api.OK {
		t.Fatalf("%s: fault %v", text, f)
	}
	return c
}

// query: the atom that the text, without its question mark, asks for.
func query(t *testing.T, text string) api.Atom {
	t.Helper()
	x, f := syntax.Query(text + "?")
	if f.Err != api.OK {
		t.Fatalf("%s: fault %v", text, f)
	}
	return x
}

// told: the clauses' texts.
func told(cs []api.Clause) []string {
	var l []string
	for _, c := range cs {
		l = append(l, syntax.Print(c))
	}
	return l
}

func toldAtoms(l []api.Atom) []string {
	var out []string
	for _, x := range l {
		out = append(out, syntax.PrintAtom(x))
	}
	return out
}

func sameAtom(x, y api.Atom) bool {
	return x.Name == y.Name && x.By == y.By && slices.Equal(x.Args, y.Args)
}

// same: atom by atom, nil and empty lists being one.
func same(x, y []api.Atom) bool { return slices.EqualFunc(x, y, sameAtom) }

func sameClause(x, y api.Clause) bool {
	return sameAtom(x.Head, y.Head) && same(x.Body, y.Body) && slices.Equal(x.Tests, y.Tests)
}

func sameClauses(x, y []api.Clause) bool { return slices.EqualFunc(x, y, sameClause) }

func sameChange(x, y api.Change) bool { return same(x.Came, y.Came) && same(x.Gone, y.Gone) }

func noChange(x api.Change) bool { return len(x.Came) == 0 && len(x.Gone) == 0 }

func has(l []api.Atom, f api.Atom) bool {
	return slices.ContainsFunc(l, func(x api.Atom) bool { return sameAtom(x, f) })
}

func hasClause(l []api.Clause, c api.Clause) bool {
	return slices.ContainsFunc(l, func(x api.Clause) bool { return sameClause(x, c) })
}

func count(on bool) int {
	if on {
		return 1
	}
	return 0
}

// watched: an upkeep, with the clauses that the calls so far should have left, and the facts at the last look. Behind each call it is asked whether its looks are as P17.4 and P17.6 say.
type watched struct {
	t       *testing.T
	k       *upkeep.Kept
	clauses []api.Clause
	facts   []api.Atom
}

func watch(t *testing.T) *watched { return &watched{t: t, k: upkeep.New()} }

// watchOf: with the clauses of a text, which come one by one.
func watchOf(t *testing.T, text string) *watched {
	t.Helper()
	w := watch(t)
	for _, c := range program(t, text) {
		w.addClause(c)
	}
	return w
}

// addClause: what it answers, which is no refusal.
func (w *watched) addClause(c api.Clause) api.Change {
	w.t.Helper()
	change, err := w.k.Add(c)
	if err != api.OK || len(change.Gone) != 0 {
		w.t.Errorf("P17.2: of %q: Add(%s) is %v, %d, want OK and nothing gone", told(w.clauses), syntax.Print(c), change, err)
	}
	w.clauses = setOf(append(slices.Clone(w.clauses), c))
	w.look(change)
	return change
}

// removeClause: what it answers, which is no refusal.
func (w *watched) removeClause(c api.Clause) api.Change {
	w.t.Helper()
	change, err := w.k.Remove(c)
	if err != api.OK || len(change.Came) != 0 {
		w.t.Errorf("P17.3: of %q: Remove(%s) is %v, %d, want OK and nothing that came", told(w.clauses), syntax.Print(c), change, err)
	}
	w.clauses = slices.DeleteFunc(slices.Clone(w.clauses), func(x api.Clause) bool { return sameClause(x, c) })
	w.look(change)
	return change
}

// add: the clause of a text comes, and with it just these facts.
func (w *watched) add(text string, came ...string) {
	w.t.Helper()
	before := told(w.clauses)
	if change := w.addClause(clauseOf(w.t, text)); !slices.Equal(toldAtoms(change.Came), came) {
		w.t.Errorf("P17.2: of %q: Add(%s): came %q, want %q", before, text, toldAtoms(change.Came), came)
	}
}

// remove: the clause of a text goes, and with it just these facts.
func (w *watched) remove(text string, gone ...string) {
	w.t.Helper()
	before := told(w.clauses)
	if change := w.removeClause(clauseOf(w.t, text)); !slices.Equal(toldAtoms(change.Gone), gone) {
		w.t.Errorf("P17.3: of %q: Remove(%s): gone %q, want %q", before, text, toldAtoms(change.Gone), gone)
	}
}

// refuseAdd: the clause doesn't come, and nothing changes.
func (w *watched) refuseAdd(c api.Clause, want api.Errno) {
	w.t.Helper()
	change, err := w.k.Add(c)
	if err != want || !noChange(change) {
		w.t.Errorf("P17.2: of %d clauses: Add(%v) is %v, %d, want %d and no change", len(w.clauses), c, change, err, want)
	}
	w.look(api.Change{})
}

// refuseRemove: the clause doesn't go, and nothing changes.
func (w *watched) refuseRemove(c api.Clause, want api.Errno) {
	w.t.Helper()
	change, err := w.k.Remove(c)
	if err != want || !noChange(change) {
		w.t.Errorf("P17.3: of %d clauses: Remove(%v) is %v, %d, want %d and no change", len(w.clauses), c, change, err, want)
	}
	w.look(api.Change{})
}

// look: the clauses are those that they should be, the facts those that Whole gives of them, and the change led to them.
func (w *watched) look(change api.Change) {
	w.t.Helper()
	if cs := w.k.Clauses(); !sameClauses(cs, w.clauses) {
		w.t.Errorf("P17.4: the clauses are %q, want %q", told(cs), told(w.clauses))
	}
	facts := w.k.Facts()
	if want := modelFacts(w.t, w.clauses); !same(facts, want) {
		w.t.Errorf("P17.6: of %q the facts are %q, want %q", told(w.clauses), toldAtoms(facts), toldAtoms(want))
	}
	if want := difference(w.facts, facts); !sameChange(change, want) {
		w.t.Errorf("P17.6: behind it there are %q: the change was %v, want %v", told(w.clauses), change, want)
	}
	w.facts = facts
}

// modelFacts: those of Whole's model.
func modelFacts(t *testing.T, cs []api.Clause) []api.Atom {
	t.Helper()
	m, err := eval.Whole(cs)
	if err != api.OK {
		t.Fatalf("Whole of %q: %d", told(cs), err)
	}
	var l []api.Atom
	for _, k := range m.Facts {
		l = append(l, k.Fact)
	}
	return l
}

// difference: from facts in order to others in order.
func difference(from, to []api.Atom) api.Change {
	return api.Change{Came: less(to, from), Gone: less(from, to)}
}

// less: those of a list that another one, in order, hasn't.
func less(l, others []api.Atom) []api.Atom {
	var out []api.Atom
	for _, x := range l {
		if _, there := slices.BinarySearchFunc(others, x, compareAtoms); !there {
			out = append(out, x)
		}
	}
	return out
}

// keptOf: an upkeep of these clauses, added in their order, without a look between.
func keptOf(t *testing.T, cs []api.Clause) *upkeep.Kept {
	t.Helper()
	k := upkeep.New()
	for _, c := range cs {
		if _, err := k.Add(c); err != api.OK {
			t.Fatalf("P17.2: Add(%s), of %d clauses: %d", syntax.Print(c), len(k.Clauses()), err)
		}
	}
	return k
}

// wantAnswers: of the atom, in order.
func (w *watched) wantAnswers(asked api.Atom, want ...string) {
	w.t.Helper()
	if got := w.k.Answers(asked); !slices.Equal(toldAtoms(got), want) {
		w.t.Errorf("P17.5: Answers(%v) is %q, want %q", asked, toldAtoms(got), want)
	}
}

func (w *watched) wantHas(f api.Atom, want bool) {
	w.t.Helper()
	if w.k.Has(f) != want {
		w.t.Errorf("P17.5: Has(%v) is %t", f, !want)
	}
}

// wantFacts: all of them, in order.
func (w *watched) wantFacts(want ...string) {
	w.t.Helper()
	if got := toldAtoms(w.k.Facts()); !slices.Equal(got, want) {
		w.t.Errorf("P17.4: the facts are %q, want %q", got, want)
	}
}

// wantClauses: all of them, in order.
func (w *watched) wantClauses(want ...string) {
	w.t.Helper()
	if got := told(w.k.Clauses()); !slices.Equal(got, want) {
		w.t.Errorf("P17.4: the clauses are %q, want %q", got, want)
	}
}
