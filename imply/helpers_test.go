package imply_test

import (
	"slices"
	"strings"
	"testing"

	"hearsay/api"
	"hearsay/imply"
	"hearsay/syntax"
)

const (
	leastInt    = -1 << 63
	greatestInt = 1<<63 - 1
)

var (
	none = api.Term{}
	a    = txt("a")
	b    = txt("b")
	ann  = txt("ann")
	bob  = txt("bob")
)

func num(n int) api.Term    { return api.Term{Kind: api.KindNum, N: n} }
func txt(s string) api.Term { return api.Term{Kind: api.KindText, S: s} }
func v(n int) api.Term      { return api.Term{Kind: api.KindVar, N: n} }

func long(n int) string { return strings.Repeat("a", n) }

func nTimes[T any](n int, x T) []T { return slices.Repeat([]T{x}, n) }

func atom(name string, args ...api.Term) api.Atom { return api.Atom{Name: name, Args: args} }

func p(args ...api.Term) api.Atom { return atom("p", args...) }
func q(args ...api.Term) api.Atom { return atom("q", args...) }

// by: the same atom, said by someone.
func by(who api.Term, of api.Atom) api.Atom {
	of.By = who
	return of
}

func atoms(l ...api.Atom) []api.Atom { return l }

func terms(l ...api.Term) []api.Term { return l }

func texts(l ...string) []string { return l }

func test(op int, l, r api.Term) api.Test { return api.Test{Op: op, L: l, R: r} }

func rule(head api.Atom, body ...api.Atom) api.Clause { return api.Clause{Head: head, Body: body} }

func with(c api.Clause, tests ...api.Test) api.Clause {
	c.Tests = tests
	return c
}

func rules(l ...api.Clause) []api.Clause { return l }

// plus: the clauses and further ones, in new memory.
func plus(cs []api.Clause, more ...api.Clause) []api.Clause { return slices.Concat(cs, more) }

// numbered: the clauses name(from). to name(to - 1).
func numbered(name string, from, to int) []api.Clause {
	var cs []api.Clause
	for n := from; n < to; n++ {
		cs = append(cs, rule(atom(name, num(n))))
	}
	return cs
}

// read: the clause of a text whose variables are written V0, V1 .. as they have their numbers, so that what is read is what stands there.
func read(t *testing.T, text string) api.Clause {
	t.Helper()
	c, f := syntax.Clause(text)
	if f.Err != api.OK {
		t.Fatalf("%s: fault %v", text, f)
	}
	if back := syntax.Print(c); back != text {
		t.Fatalf("%s is %s", text, back)
	}
	return c
}

// readAll: one clause of each text, as they stand.
func readAll(t *testing.T, texts ...string) []api.Clause {
	t.Helper()
	var cs []api.Clause
	for _, s := range texts {
		cs = append(cs, read(t, s))
	}
	return cs
}

// told: the clauses' texts.
func told(cs []api.Clause) []string {
	var l []string
	for _, c := range cs {
		l = append(l, syntax.Print(c))
	}
	return l
}

func toldAtoms(l []api.Atom) []string {
	var out []string
	for _, x := range l {
		out = append(out, syntax.PrintAtom(x))
	}
	return out
}

func sameAtom(x, y api.Atom) bool {
	return x.Name == y.Name && x.By == y.By && slices.Equal(x.Args, y.Args)
}

// same: atom by atom, nil and empty lists being one.
func same(x, y []api.Atom) bool { return slices.EqualFunc(x, y, sameAtom) }

func sameClause(x, y api.Clause) bool {
	return sameAtom(x.Head, y.Head) && same(x.Body, y.Body) && slices.Equal(x.Tests, y.Tests)
}

func sameClauses(x, y []api.Clause) bool { return slices.EqualFunc(x, y, sameClause) }

func hasClause(cs []api.Clause, c api.Clause) bool {
	return slices.ContainsFunc(cs, func(x api.Clause) bool { return sameClause(x, c) })
}

// allBut: a copy of the list without what stands at this place.
func allBut[T any](l []T, place int) []T { return slices.Delete(slices.Clone(l), place, place+1) }

func count(on bool) int {
	if on {
		return 1
	}
	return 0
}

// wantFrozen: the body's atoms, then the head, by their texts.
func wantFrozen(t *testing.T, cs []api.Clause, c api.Clause, want ...string) {
	t.Helper()
	body, head, err := imply.Freeze(cs, c)
	if got := append(toldAtoms(body), syntax.PrintAtom(head)); !slices.Equal(got, want) || err != api.OK {
		t.Errorf("P15.1: Freeze(%q, %q) is %q, %d, want %q, OK", told(cs), told(rules(c)), got, err, want)
	}
}

func wantImplied(t *testing.T, cs []api.Clause, c api.Clause, want bool) {
	t.Helper()
	if got, err := imply.Implies(cs, c); got != want || err != api.OK {
		t.Errorf("P15.2: Implies(%q, %q) is %v, %d, want %v, OK", told(cs), told(rules(c)), got, err, want)
	}
}

func wantRedundant(t *testing.T, cs []api.Clause, want ...string) {
	t.Helper()
	if got, err := imply.Redundant(cs); !slices.Equal(told(got), want) || err != api.OK {
		t.Errorf("P15.4: Redundant(%q) is %q, %d, want %q, OK", told(cs), told(got), err, want)
	}
}

func wantMinimal(t *testing.T, cs []api.Clause, want ...string) {
	t.Helper()
	if got, err := imply.Minimal(cs); !slices.Equal(told(got), want) || err != api.OK {
		t.Errorf("P15.5: Minimal(%q) is %q, %d, want %q, OK", told(cs), told(got), err, want)
	}
}

func wantEqual(t *testing.T, as, bs []api.Clause, want bool) {
	t.Helper()
	if got, err := imply.Equal(as, bs); got != want || err != api.OK {
		t.Errorf("P15.6: Equal(%q, %q) is %v, %d, want %v, OK", told(as), told(bs), got, err, want)
	}
}

// wantFreezeErr: with nothing beside it.
func wantFreezeErr(t *testing.T, cs []api.Clause, c api.Clause, want api.Errno) {
	t.Helper()
	if body, head, err := imply.Freeze(cs, c); len(body) != 0 || !sameAtom(head, api.Atom{}) || err != want {
		t.Errorf("P15.1: Freeze of %d clauses and %v is %v, %v, %d, want %d and nothing", len(cs), c, body, head, err, want)
	}
}

func wantImpliesErr(t *testing.T, cs []api.Clause, c api.Clause, want api.Errno) {
	t.Helper()
	if got, err := imply.Implies(cs, c); got || err != want {
		t.Errorf("P15.2: Implies of %d clauses and %v is %v, %d, want %d and nothing", len(cs), c, got, err, want)
	}
}

func wantRedundantErr(t *testing.T, cs []api.Clause, want api.Errno) {
	t.Helper()
	if got, err := imply.Redundant(cs); len(got) != 0 || err != want {
		t.Errorf("P15.4: Redundant of %d clauses is %v, %d, want %d and nothing", len(cs), got, err, want)
	}
}

func wantMinimalErr(t *testing.T, cs []api.Clause, want api.Errno) {
	t.Helper()
	if got, err := imply.Minimal(cs); len(got) != 0 || err != want {
		t.Errorf("P15.5: Minimal of %d clauses is %v, %d, want %d and nothing", len(cs), got, err, want)
	}
}

func wantEqualErr(t *testing.T, as, bs []api.Clause, want api.Errno) {
	t.Helper()
	if got, err := imply.Equal(as, bs); got || err != want {
		t.Errorf("P15.6: Equal of %d and %d clauses is %v, %d, want %d and nothing", len(as), len(bs), got, err, want)
	}
}
