package subsume_test

import (
	"slices"
	"strings"
	"testing"

	"hearsay/api"
	"hearsay/subsume"
	"hearsay/syntax"
)

const (
	leastInt    = -1 << 63
	greatestInt = 1<<63 - 1
)

var (
	none = api.Term{}
	a    = txt("a")
	b    = txt("b")
	ann  = txt("ann")
	bob  = txt("bob")
)

func num(n int) api.Term    { return api.Term{Kind: api.KindNum, N: n} }
func txt(s string) api.Term { return api.Term{Kind: api.KindText, S: s} }
func v(n int) api.Term      { return api.Term{Kind: api.KindVar, N: n} }

func long(n int) string { return strings.Repeat("a", n) }

func nTimes[T any](n int, x T) []T { return slices.Repeat([]T{x}, n) }

func atom(name string, args ...api.Term) api.Atom { return api.Atom{Name: name, Args: args} }

func p(args ...api.Term) api.Atom { return atom("p", args...) }
func q(args ...api.Term) api.Atom { return atom("q", args...) }

// by: the same atom, said by someone.
func by(who api.Term, of api.Atom) api.Atom {
	of.By = who
	return of
}

func atoms(l ...api.Atom) []api.Atom { return l }

func terms(l ...api.Term) []api.Term { return l }

func texts(l ...string) []string { return l }

func test(op int, l, r api.Term) api.Test { return api.Test{Op: op, L: l, R: r} }

func rule(head api.Atom, body ...api.Atom) api.Clause { return api.Clause{Head: head, Body: body} }

func with(c api.Clause, tests ...api.Test) api.Clause {
	c.Tests = tests
	return c
}

func rules(l ...api.Clause) []api.Clause { return l }

// read: the clause of a text whose variables are written V0, V1 .. as they have their numbers, so that what is read is what stands there.
func read(t *testing.T, text string) api.Clause {
	t.Helper()
	c, f := syntax.Clause(text)
	if f.Err != api.OK {
		t.Fatalf("%s: fault %v", text, f)
	}
	if back := syntax.Print(c); back != text {
		t.Fatalf("%s is %s", text, back)
	}
	return c
}

// readAll: one clause of each text, as they stand.
func readAll(t *testing.T, texts ...string) []api.Clause {
	t.Helper()
	var cs []api.Clause
	for _, s := range texts {
		cs = append(cs, read(t, s))
	}
	return cs
}

// told: the clauses' texts.
func told(cs []api.Clause) []string {
	var l []string
	for _, c := range cs {
		l = append(l, syntax.Print(c))
	}
	return l
}

func toldTerms(l []api.Term) string {
	var out []string
	for _, x := range l {
		out = append(out, syntax.PrintTerm(x))
	}
	return strings.Join(out, " ")
}

func sameAtom(x, y api.Atom) bool {
	return x.Name == y.Name && x.By == y.By && slices.Equal(x.Args, y.Args)
}

func sameClause(x, y api.Clause) bool {
	return sameAtom(x.Head, y.Head) && slices.EqualFunc(x.Body, y.Body, sameAtom) && slices.Equal(x.Tests, y.Tests)
}

// sameClauses: one by one, nil and empty lists being one.
func sameClauses(x, y []api.Clause) bool { return slices.EqualFunc(x, y, sameClause) }

func hasClause(cs []api.Clause, c api.Clause) bool {
	return slices.ContainsFunc(cs, func(x api.Clause) bool { return sameClause(x, c) })
}

// allBut: a copy of the list without what stands at this place.
func allBut[T any](l []T, place int) []T { return slices.Delete(slices.Clone(l), place, place+1) }

func count(on bool) int {
	if on {
		return 1
	}
	return 0
}

// wantValues: of clauses by their texts; the values as a text, with blanks between.
func wantValues(t *testing.T, c, d, want string) {
	t.Helper()
	if got, yes := subsume.Subsumes(read(t, c), read(t, d)); toldTerms(got) != want || !yes {
		t.Errorf("P14.1: Subsumes(%s, %s) is [%s], %v, want [%s], true", c, d, toldTerms(got), yes, want)
	}
}

func wantNot(t *testing.T, c, d string) {
	t.Helper()
	wantNotSubsumed(t, read(t, c), read(t, d))
}

func wantNotSubsumed(t *testing.T, c, d api.Clause) {
	t.Helper()
	if got, yes := subsume.Subsumes(c, d); len(got) != 0 || yes {
		t.Errorf("P14.1: Subsumes(%v, %v) is %v, %v, want nothing, false", c, d, got, yes)
	}
}

// wantSubsumed: whatever the values are.
func wantSubsumed(t *testing.T, promise string, c, d api.Clause) {
	t.Helper()
	if _, yes := subsume.Subsumes(c, d); !yes {
		t.Errorf("%s: %q doesn't subsume %q", promise, told(rules(c)), told(rules(d)))
	}
}

// answer: of Subsumes.
type answer struct {
	vals []api.Term
	yes  bool
}

func (x answer) same(y answer) bool { return slices.Equal(x.vals, y.vals) && x.yes == y.yes }

func subsumes(c, d api.Clause) answer {
	vals, yes := subsume.Subsumes(c, d)
	return answer{vals, yes}
}

func wantReduced(t *testing.T, cs []api.Clause, want ...string) {
	t.Helper()
	if got, err := subsume.Reduce(cs); !slices.Equal(told(got), want) || err != api.OK {
		t.Errorf("P14.2: Reduce(%q) is %q, %d, want %q, OK", told(cs), told(got), err, want)
	}
}

// wantReduceErr: with nothing beside it.
func wantReduceErr(t *testing.T, cs []api.Clause, want api.Errno) {
	t.Helper()
	if got, err := subsume.Reduce(cs); len(got) != 0 || err != want {
		t.Errorf("P14.2: Reduce of %d clauses is %v, %d, want %d and nothing", len(cs), got, err, want)
	}
}

func wantCondensed(t *testing.T, c, want string) {
	t.Helper()
	if got, err := subsume.Condense(read(t, c)); !slices.Equal(told(rules(got)), texts(want)) || err != api.OK {
		t.Errorf("P14.3: Condense(%s) is %q, %d, want %s, OK", c, told(rules(got)), err, want)
	}
}

// wantStays: what is condensed already.
func wantStays(t *testing.T, c string) {
	t.Helper()
	wantCondensed(t, c, c)
}

// wantCondenseErr: with nothing beside it.
func wantCondenseErr(t *testing.T, c api.Clause, want api.Errno) {
	t.Helper()
	if got, err := subsume.Condense(c); !sameClause(got, api.Clause{}) || err != want {
		t.Errorf("P14.3: Condense(%v) is %v, %d, want %d and nothing", c, got, err, want)
	}
}
