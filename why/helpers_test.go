package why_test

import (
	"slices"
	"strings"
	"testing"

	"hearsay/api"
	"hearsay/syntax"
	"hearsay/why"
)

const (
	leastInt    = -1 << 63
	greatestInt = 1<<63 - 1
)

var (
	none = api.Term{}
	a    = txt("a")
	b    = txt("b")
	ann  = txt("ann")
	bob  = txt("bob")
)

func num(n int) api.Term    { return api.Term{Kind: api.KindNum, N: n} }
func txt(s string) api.Term { return api.Term{Kind: api.KindText, S: s} }
func v(n int) api.Term      { return api.Term{Kind: api.KindVar, N: n} }

func long(n int) string { return strings.Repeat("a", n) }

func nTimes[T any](n int, x T) []T { return slices.Repeat([]T{x}, n) }

func atom(name string, args ...api.Term) api.Atom { return api.Atom{Name: name, Args: args} }

func p(args ...api.Term) api.Atom { return atom("p", args...) }
func q(args ...api.Term) api.Atom { return atom("q", args...) }

// by: the same atom, said by someone.
func by(who api.Term, of api.Atom) api.Atom {
	of.By = who
	return of
}

func atoms(l ...api.Atom) []api.Atom { return l }

func terms(l ...api.Term) []api.Term { return l }

func texts(l ...string) []string { return l }

func test(op int, l, r api.Term) api.Test { return api.Test{Op: op, L: l, R: r} }

func rule(head api.Atom, body ...api.Atom) api.Clause { return api.Clause{Head: head, Body: body} }

func with(c api.Clause, tests ...api.Test) api.Clause {
	c.Tests = tests
	return c
}

func rules(l ...api.Clause) []api.Clause { return l }

// numbered: the clauses name(from). to name(to - 1).
func numbered(name string, from, to int) []api.Clause {
	var cs []api.Clause
	for n := from; n < to; n++ {
		cs = append(cs, rule(atom(name, num(n))))
	}
	return cs
}

// read: the clause of a text whose variables are written V0, V1 .. as they have their numbers, so that what is read is what stands there.
func read(t *testing.T, text string) api.Clause {
	t.Helper()
	c, f := syntax.Clause(text)
	if f.Err != api.OK {
		t.Fatalf("%s: fault %v", text, f)
	}
	if back := syntax.Print(c); back != text {
		t.Fatalf("%s is %s", text, back)
	}
	return c
}

// readAll: one clause of each text, as they stand.
func readAll(t *testing.T, texts ...string) []api.Clause {
	t.Helper()
	var cs []api.Clause
	for _, s := range texts {
		cs = append(cs, read(t, s))
	}
	return cs
}

// fact: the head of a clause without a body.
func fact(t *testing.T, text string) api.Atom {
	t.Helper()
	return read(t, text+".").Head
}

// told: the clauses' texts.
func told(cs []api.Clause) []string {
	var l []string
	for _, c := range cs {
		l = append(l, syntax.Print(c))
	}
	return l
}

func toldFacts(l []api.Atom) []string {
	var out []string
	for _, x := range l {
		out = append(out, syntax.PrintAtom(x))
	}
	return out
}

func sameAtom(x, y api.Atom) bool {
	return x.Name == y.Name && x.By == y.By && slices.Equal(x.Args, y.Args)
}

// same: atom by atom, nil and empty lists being one.
func same(x, y []api.Atom) bool { return slices.EqualFunc(x, y, sameAtom) }

func sameClause(x, y api.Clause) bool {
	return sameAtom(x.Head, y.Head) && same(x.Body, y.Body) && slices.Equal(x.Tests, y.Tests)
}

func sameClauses(x, y []api.Clause) bool { return slices.EqualFunc(x, y, sameClause) }

func hasClause(cs []api.Clause, c api.Clause) bool {
	return slices.ContainsFunc(cs, func(x api.Clause) bool { return sameClause(x, c) })
}

// allBut: a copy of the list without what stands at this place.
func allBut[T any](l []T, place int) []T { return slices.Delete(slices.Clone(l), place, place+1) }

func wantSupport(t *testing.T, cs []api.Clause, f api.Atom, want ...string) {
	t.Helper()
	if got, err := why.Support(cs, f); !slices.Equal(told(got), want) || err != api.OK {
		t.Errorf("P13.1: Support(%q, %v) is %q, %d, want %q, OK", told(cs), f, told(got), err, want)
	}
}

func wantNeeded(t *testing.T, cs []api.Clause, f api.Atom, want ...string) {
	t.Helper()
	if got, err := why.Needed(cs, f); !slices.Equal(told(got), want) || err != api.OK {
		t.Errorf("P13.2: Needed(%q, %v) is %q, %d, want %q, OK", told(cs), f, told(got), err, want)
	}
}

// wantBoth: of Support and Needed, one answer.
func wantBoth(t *testing.T, cs []api.Clause, f api.Atom, want ...string) {
	t.Helper()
	wantSupport(t, cs, f, want...)
	wantNeeded(t, cs, f, want...)
}

func wantWithout(t *testing.T, cs []api.Clause, u string, want ...api.Clause) {
	t.Helper()
	if got := why.Without(cs, u); !sameClauses(got, want) {
		t.Errorf("P13.3: Without(%v, %q) is %v, want %v", cs, u, got, want)
	}
}

func wantLoss(t *testing.T, cs []api.Clause, u string, want ...string) {
	t.Helper()
	if got, err := why.Loss(cs, u); !slices.Equal(toldFacts(got), want) || err != api.OK {
		t.Errorf("P13.4: Loss(%q, %q) is %q, %d, want %q, OK", told(cs), u, toldFacts(got), err, want)
	}
}

// wantErr: of Support and Needed, with nothing beside it.
func wantErr(t *testing.T, cs []api.Clause, f api.Atom, want api.Errno) {
	t.Helper()
	if got, err := why.Support(cs, f); len(got) != 0 || err != want {
		t.Errorf("P13.1: Support of %d clauses and %v is %v, %d, want %d and nothing", len(cs), f, got, err, want)
	}
	if got, err := why.Needed(cs, f); len(got) != 0 || err != want {
		t.Errorf("P13.2: Needed of %d clauses and %v is %v, %d, want %d and nothing", len(cs), f, got, err, want)
	}
}

// wantLossErr: with nothing beside it.
func wantLossErr(t *testing.T, cs []api.Clause, u string, want api.Errno) {
	t.Helper()
	if got, err := why.Loss(cs, u); len(got) != 0 || err != want {
		t.Errorf("P13.4: Loss of %d clauses and %q is %v, %d, want %d and nothing", len(cs), u, got, err, want)
	}
}
