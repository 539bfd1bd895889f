package goal_test

import (
	"slices"
	"strings"
	"testing"

	"hearsay/api"
	"hearsay/goal"
	"hearsay/syntax"
)

const (
	leastInt    = -1 << 63
	greatestInt = 1<<63 - 1
)

var (
	none = api.Term{}
	a    = txt("a")
	b    = txt("b")
	ann  = txt("ann")
	bob  = txt("bob")
)

func num(n int) api.Term    { return api.Term{Kind: api.KindNum, N: n} }
func txt(s string) api.Term { return api.Term{Kind: api.KindText, S: s} }
func v(n int) api.Term      { return api.Term{Kind: api.KindVar, N: n} }

func long(n int) string { return strings.Repeat("a", n) }

func nTimes[T any](n int, x T) []T { return slices.Repeat([]T{x}, n) }

func atom(name string, args ...api.Term) api.Atom { return api.Atom{Name: name, Args: args} }

func p(args ...api.Term) api.Atom { return atom("p", args...) }
func q(args ...api.Term) api.Atom { return atom("q", args...) }

// by: the same atom, said by someone.
func by(who api.Term, of api.Atom) api.Atom {
	of.By = who
	return of
}

func atoms(l ...api.Atom) []api.Atom { return l }

func terms(l ...api.Term) []api.Term { return l }

func texts(l ...string) []string { return l }

func test(op int, l, r api.Term) api.Test { return api.Test{Op: op, L: l, R: r} }

func rule(head api.Atom, body ...api.Atom) api.Clause { return api.Clause{Head: head, Body: body} }

func with(c api.Clause, tests ...api.Test) api.Clause {
	c.Tests = tests
	return c
}

func rules(l ...api.Clause) []api.Clause { return l }

// plus: the clauses and further ones, in new memory.
func plus(cs []api.Clause, more ...api.Clause) []api.Clause { return slices.Concat(cs, more) }

// numbered: the clauses name(from). to name(to - 1).
func numbered(name string, from, to int) []api.Clause {
	var cs []api.Clause
	for n := from; n < to; n++ {
		cs = append(cs, rule(atom(name, num(n))))
	}
	return cs
}

// program: the clauses of a text.
func program(t *testing.T, text string) []api.Clause {
	t.Helper()
	cs, f := syntax.Program(text)
	if f.Err != api.OK {
		t.Fatalf("%s: fault %v", text, f)
	}
	return cs
}

// query: the atom that the text, without its question mark, asks for.
func query(t *testing.T, text string) api.Atom {
	t.Helper()
	x, f := syntax.Query(text + "?")
	if f.Err != api.OK {
		t.Fatalf("%s: fault %v", text, f)
	}
	return x
}

// told: the clauses' texts.
func told(cs []api.Clause) []string {
	var l []string
	for _, c := range cs {
		l = append(l, syntax.Print(c))
	}
	return l
}

// toldAtom: as chapter 5 prints it; a qualifier that can't be one too.
func toldAtom(x api.Atom) string {
	said := ""
	if x.By != none {
		said = syntax.PrintTerm(x.By) + " says "
	}
	x.By = none
	return said + syntax.PrintAtom(x)
}

func toldAtoms(l []api.Atom) []string {
	var out []string
	for _, x := range l {
		out = append(out, toldAtom(x))
	}
	return out
}

// toldCalls: a line a goal.
func toldCalls(l []api.Call) []string {
	var out []string
	for _, x := range l {
		out = append(out, toldAtom(x.Goal)+": "+strings.Join(toldAtoms(x.Answers), ", "))
	}
	return out
}

func sameAtom(x, y api.Atom) bool {
	return x.Name == y.Name && x.By == y.By && slices.Equal(x.Args, y.Args)
}

// same: atom by atom, nil and empty lists being one.
func same(x, y []api.Atom) bool { return slices.EqualFunc(x, y, sameAtom) }

func sameClause(x, y api.Clause) bool {
	return sameAtom(x.Head, y.Head) && same(x.Body, y.Body) && slices.Equal(x.Tests, y.Tests)
}

func sameClauses(x, y []api.Clause) bool { return slices.EqualFunc(x, y, sameClause) }

func sameCall(x, y api.Call) bool { return sameAtom(x.Goal, y.Goal) && same(x.Answers, y.Answers) }

func sameCalls(x, y []api.Call) bool { return slices.EqualFunc(x, y, sameCall) }

// allBut: a copy of the list without what stands at this place.
func allBut[T any](l []T, place int) []T { return slices.Delete(slices.Clone(l), place, place+1) }

func count(on bool) int {
	if on {
		return 1
	}
	return 0
}

// renumbered: the atom's variables, which are numbered from 0 on, by other numbers.
func renumbered(x api.Atom, numbers ...int) api.Atom {
	to := func(t api.Term) api.Term {
		if variable(t) {
			return v(numbers[t.N])
		}
		return t
	}
	out := api.Atom{By: to(x.By), Name: x.Name}
	for _, t := range x.Args {
		out.Args = append(out.Args, to(t))
	}
	return out
}

// inOtherNumbers: the query, its variables with any numbers and gaps: it asks for the same.
func inOtherNumbers(x api.Atom) []api.Atom {
	return []api.Atom{
		x,
		renumbered(x, 8, 7, 6, 5, 4, 3, 2, 1, 0),
		renumbered(x, 9, 10, 11, 12, 13, 14, 15, 16, 17),
		renumbered(x, 72, 3, 9, 81, 80, 0, 1, 1000, 17),
		renumbered(x, greatestInt, 0, greatestInt-1, 1, 5, 1<<40, 1<<32, 2, 10),
	}
}

// wantTable: the table of the query, in lines, in this and in the other order, with doubles, with other numbers of the query's variables; Ask's answers; and that the plain version has them too.
func wantTable(t *testing.T, cs []api.Clause, text string, want ...string) {
	t.Helper()
	asked := query(t, text)
	backwards := slices.Concat(cs, cs[:len(cs)/2], cs[:1*count(len(cs) > 0)])
	slices.Reverse(backwards)
	for _, l := range [][]api.Clause{cs, backwards} {
		for _, x := range inOtherNumbers(asked) {
			calls, err := goal.Tables(l, x)
			if got := toldCalls(calls); !slices.Equal(got, want) || err != api.OK {
				t.Errorf("P16.1: Tables(%q, %s) is %q, %d, want %q, OK", told(l), toldAtom(x), got, err, want)
			}
			wantAnswers(t, l, x, answersOf(calls, x)...)
		}
	}
	if plain := toldCalls(plainTable(cs, asked)); !slices.Equal(plain, want) {
		t.Errorf("the plain version of %q, %s is %q, want %q", told(cs), text, plain, want)
	}
}

// answersOf: of the query's goal.
func answersOf(calls []api.Call, x api.Atom) []string {
	for _, c := range calls {
		if sameAtom(c.Goal, goalOf(x)) {
			return toldAtoms(c.Answers)
		}
	}
	return texts("its goal isn't asked")
}

// wantAnswers: of Ask.
func wantAnswers(t *testing.T, cs []api.Clause, x api.Atom, want ...string) {
	t.Helper()
	if got, err := goal.Ask(cs, x); !slices.Equal(toldAtoms(got), want) || err != api.OK {
		t.Errorf("P16.2: Ask(%q, %s) is %q, %d, want %q, OK", told(cs), toldAtom(x), toldAtoms(got), err, want)
	}
}

// wantAsk: the query's answers, by their texts.
func wantAsk(t *testing.T, cs []api.Clause, text string, want ...string) {
	t.Helper()
	wantAnswers(t, cs, query(t, text), want...)
}

// goalsOf: how many goals the query's table has, and how many answers in all.
func goalsOf(t *testing.T, cs []api.Clause, x api.Atom) (int, int) {
	t.Helper()
	calls, err := goal.Tables(cs, x)
	if err != api.OK {
		t.Errorf("P16.1: Tables of %d clauses and %s is %d", len(cs), toldAtom(x), err)
	}
	answers := 0
	for _, c := range calls {
		answers += len(c.Answers)
	}
	return len(calls), answers
}

// wantErr: of both calls, with nothing beside it.
func wantErr(t *testing.T, cs []api.Clause, x api.Atom, want api.Errno) {
	t.Helper()
	if got, err := goal.Ask(cs, x); len(got) != 0 || err != want {
		t.Errorf("P16.2: Ask of %d clauses and %v is %d answers, %d, want %d and nothing", len(cs), x, len(got), err, want)
	}
	if got, err := goal.Tables(cs, x); len(got) != 0 || err != want {
		t.Errorf("P16.1: Tables of %d clauses and %v is %d goals, %d, want %d and nothing", len(cs), x, len(got), err, want)
	}
}
