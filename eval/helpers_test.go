package eval_test

import (
	"fmt"
	"iter"
	"slices"
	"strings"
	"testing"

	"hearsay/api"
	"hearsay/eval"
	"hearsay/syntax"
)

const (
	leastInt    = -1 << 63
	greatestInt = 1<<63 - 1
)

var (
	none = api.Term{}
	a    = txt("a")
	b    = txt("b")
	ann  = txt("ann")
	bob  = txt("bob")
)

func num(n int) api.Term    { return api.Term{Kind: api.KindNum, N: n} }
func txt(s string) api.Term { return api.Term{Kind: api.KindText, S: s} }
func v(n int) api.Term      { return api.Term{Kind: api.KindVar, N: n} }

func long(n int) string { return strings.Repeat("a", n) }

func nTimes[T any](n int, x T) []T { return slices.Repeat([]T{x}, n) }

func atom(name string, args ...api.Term) api.Atom { return api.Atom{Name: name, Args: args} }

func p(args ...api.Term) api.Atom { return atom("p", args...) }

func q(args ...api.Term) api.Atom { return atom("q", args...) }

// by: the same atom, said by someone.
func by(who api.Term, of api.Atom) api.Atom {
	of.By = who
	return of
}

func atoms(l ...api.Atom) []api.Atom { return l }

func terms(l ...api.Term) []api.Term { return l }

func numbers(l ...int) []int { return l }

func test(op int, l, r api.Term) api.Test { return api.Test{Op: op, L: l, R: r} }

func rule(head api.Atom, body ...api.Atom) api.Clause { return api.Clause{Head: head, Body: body} }

func with(c api.Clause, tests ...api.Test) api.Clause {
	c.Tests = tests
	return c
}

// read: the clause of a text whose variables are written V0, V1 .. as they have their numbers, so that what is read is what stands there.
func read(t *testing.T, text string) api.Clause {
	t.Helper()
	c, f := syntax.Clause(text)
	if f.Err != api.OK {
		t.Fatalf("%s: fault %v", text, f)
	}
	if back := syntax.Print(c); back != text {
		t.Fatalf("%s is %s", text, back)
	}
	return c
}

// readAll: one clause of each text, as they stand.
func readAll(t *testing.T, texts ...string) []api.Clause {
	t.Helper()
	var cs []api.Clause
	for _, s := range texts {
		cs = append(cs, read(t, s))
	}
	return cs
}

// facts: the clauses name(from). to name(to - 1).
func facts(name string, from, to int) []api.Clause {
	var cs []api.Clause
	for n := from; n < to; n++ {
		cs = append(cs, rule(atom(name, num(n))))
	}
	return cs
}

// told: a known fact in a line: fact, round, rule, values.
func told(k api.Known) string {
	var l []string
	for _, x := range k.Vals {
		l = append(l, syntax.PrintTerm(x))
	}
	return fmt.Sprintf("%s %d %d [%s]", syntax.PrintAtom(k.Fact), k.Round, k.Rule, strings.Join(l, ", "))
}

func toldAll(m api.Model) []string {
	var l []string
	for _, k := range m.Facts {
		l = append(l, told(k))
	}
	return l
}

func sameAtom(x, y api.Atom) bool {
	return x.Name == y.Name && x.By == y.By && slices.Equal(x.Args, y.Args)
}

// same: atom by atom, nil and empty lists being one.
func same(x, y []api.Atom) bool { return slices.EqualFunc(x, y, sameAtom) }

func sameClause(x, y api.Clause) bool {
	return sameAtom(x.Head, y.Head) && same(x.Body, y.Body) && slices.Equal(x.Tests, y.Tests)
}

func sameKnown(x, y api.Known) bool {
	return sameAtom(x.Fact, y.Fact) && x.Round == y.Round && x.Rule == y.Rule && slices.Equal(x.Vals, y.Vals)
}

func sameModel(x, y api.Model) bool {
	return slices.EqualFunc(x.Rules, y.Rules, sameClause) && slices.EqualFunc(x.Facts, y.Facts, sameKnown) && x.Rounds == y.Rounds
}

// run: the model of clauses of which there is one.
func run(t *testing.T, cs []api.Clause) api.Model {
	t.Helper()
	m, err := eval.Run(cs, greatestInt, 3)
	if err != api.OK {
		t.Fatalf("P10.1: Run(%v, ..) is %d", cs, err)
	}
	return m
}

// wantModel: of both calls; each fact as told tells it.
func wantModel(t *testing.T, cs []api.Clause, rounds int, want ...string) {
	t.Helper()
	m := run(t, cs)
	if got := toldAll(m); !slices.Equal(got, want) || m.Rounds != rounds {
		t.Errorf("P10.1: the model of %v has %d rounds and\n%s\nwant %d rounds and\n%s", syntaxAll(cs), m.Rounds, strings.Join(got, "\n"), rounds, strings.Join(want, "\n"))
	}
	if whole, err := eval.Whole(cs); !sameModel(whole, m) || err != api.OK {
		t.Errorf("P10.5: Whole of %v is %v, %d", syntaxAll(cs), whole, err)
	}
}

func syntaxAll(cs []api.Clause) []string {
	var l []string
	for _, c := range cs {
		l = append(l, syntax.Print(c))
	}
	return l
}

// wantErr: with nothing beside it.
func wantErr(t *testing.T, cs []api.Clause, fuel int, want api.Errno) {
	t.Helper()
	if m, err := eval.Run(cs, fuel, 2); !sameModel(m, api.Model{}) || err != want {
		t.Errorf("P10.1: Run of %d clauses, fuel %d, is %d, with %d rules, %d facts, %d rounds; want %d and the zero model", len(cs), fuel, err, len(m.Rules), len(m.Facts), m.Rounds, want)
	}
}

// wantWholeErr: of Whole, with nothing beside it.
func wantWholeErr(t *testing.T, cs []api.Clause, want api.Errno) {
	t.Helper()
	if m, err := eval.Whole(cs); !sameModel(m, api.Model{}) || err != want {
		t.Errorf("P10.5: Whole of %d clauses is %d, with %d facts; want %d and the zero model", len(cs), err, len(m.Facts), want)
	}
}

func wantAnswers(t *testing.T, m api.Model, q api.Atom, want ...api.Atom) {
	t.Helper()
	if got := eval.Answers(m, q); !same(got, want) {
		t.Errorf("P10.6: Answers(.., %v) is %v, want %v", q, got, want)
	}
}

// orders: the list in every order.
func orders[T any](l []T) iter.Seq[[]T] {
	return func(yield func([]T) bool) {
		if len(l) == 0 {
			yield(nil)
			return
		}
		for i := range l {
			rest := slices.Delete(slices.Clone(l), i, i+1)
			for o := range orders(rest) {
				if !yield(append(o, l[i])) {
					return
				}
			}
		}
	}
}
