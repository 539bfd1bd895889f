package plan_test

import (
	"slices"
	"strings"
	"testing"

	"hearsay/api"
	"hearsay/base"
	"hearsay/plan"
	"hearsay/syntax"
)

const (
	leastInt    = -1 << 63
	greatestInt = 1<<63 - 1
)

var (
	none = api.Term{}
	a    = txt("a")
	b    = txt("b")
	c    = txt("c")
	d    = txt("d")
	ann  = txt("ann")
	bob  = txt("bob")
)

func num(n int) api.Term    { return api.Term{Kind: api.KindNum, N: n} }
func txt(s string) api.Term { return api.Term{Kind: api.KindText, S: s} }
func v(n int) api.Term      { return api.Term{Kind: api.KindVar, N: n} }

func long(n int) string { return strings.Repeat("a", n) }

func nTimes[T any](n int, x T) []T { return slices.Repeat([]T{x}, n) }

func atom(name string, args ...api.Term) api.Atom { return api.Atom{Name: name, Args: args} }

func p(args ...api.Term) api.Atom { return atom("p", args...) }

func q(args ...api.Term) api.Atom { return atom("q", args...) }

// by: the same atom, said by someone.
func by(who api.Term, of api.Atom) api.Atom {
	of.By = who
	return of
}

func atoms(l ...api.Atom) []api.Atom { return l }

func test(op int, l, r api.Term) api.Test { return api.Test{Op: op, L: l, R: r} }

func rule(head api.Atom, body ...api.Atom) api.Clause { return api.Clause{Head: head, Body: body} }

func with(c api.Clause, tests ...api.Test) api.Clause {
	c.Tests = tests
	return c
}

// vals: a solution.
func vals(l ...api.Term) []api.Term { return l }

// read: the clause of a text whose variables are written V0, V1 .. as they have their numbers, so that what is read is what stands there.
func read(t *testing.T, text string) api.Clause {
	t.Helper()
	c, f := syntax.Clause(text)
	if f.Err != api.OK {
		t.Fatalf("%s: fault %v", text, f)
	}
	if back := syntax.Print(c); back != text {
		t.Fatalf("%s is %s", text, back)
	}
	return c
}

// fact: the head of a clause's text.
func fact(t *testing.T, text string) api.Atom {
	t.Helper()
	return read(t, text).Head
}

func sameAtom(x, y api.Atom) bool {
	return x.Name == y.Name && x.By == y.By && slices.Equal(x.Args, y.Args)
}

// same: atom by atom, nil and empty lists being one.
func same(x, y []api.Atom) bool { return slices.EqualFunc(x, y, sameAtom) }

func sameSolutions(x, y [][]api.Term) bool { return slices.EqualFunc(x, y, slices.Equal[[]api.Term]) }

func sameClause(x, y api.Clause) bool {
	return sameAtom(x.Head, y.Head) && same(x.Body, y.Body) && slices.Equal(x.Tests, y.Tests)
}

func sameJoin(x, y api.Join) bool {
	return x.Atom == y.Atom && slices.Equal(x.Known, y.Known) && slices.Equal(x.Tests, y.Tests)
}

func samePlan(x, y api.Plan) bool {
	return slices.Equal(x.Ahead, y.Ahead) && slices.EqualFunc(x.Joins, y.Joins, sameJoin)
}

func join(atom int, known, tests []int) api.Join {
	return api.Join{Atom: atom, Known: known, Tests: tests}
}

func numbers(l ...int) []int { return l }

// joins: a plan with nothing ahead.
func joins(l ...api.Join) api.Plan { return api.Plan{Joins: l} }

// parts: a base with these facts in its three parts.
func parts(t *testing.T, old, young, next []api.Atom) *base.Base {
	t.Helper()
	s := base.New()
	add(t, s, old)
	s.Turn()
	add(t, s, young)
	s.Turn()
	add(t, s, next)
	return s
}

func add(t *testing.T, s *base.Base, l []api.Atom) {
	t.Helper()
	for _, f := range l {
		if came, err := s.Add(f); !came || err != api.OK {
			t.Fatalf("Add(%v) is %v, %d", f, came, err)
		}
	}
}

func wantMake(t *testing.T, c api.Clause, lead int, want api.Plan) {
	t.Helper()
	if got, err := plan.Make(c, lead); !samePlan(got, want) || err != api.OK {
		t.Errorf("P9.1: Make(%v, %d) is %v, %d; want %v, OK", c, lead, got, err, want)
	}
}

func wantSolve(t *testing.T, s *base.Base, c api.Clause, lead int, want ...[]api.Term) {
	t.Helper()
	if l, err := plan.Solve(s, c, lead); !sameSolutions(l, want) || err != api.OK {
		t.Errorf("P9.2: Solve(.., %v, %d) is %v, %d; want %v, OK", c, lead, l, err, want)
	}
}

func wantFire(t *testing.T, s *base.Base, c api.Clause, lead int, want ...api.Atom) {
	t.Helper()
	if l, err := plan.Fire(s, c, lead); !same(l, want) || err != api.OK {
		t.Errorf("P9.3: Fire(.., %v, %d) is %v, %d; want %v, OK", c, lead, l, err, want)
	}
}

// wantErr: of all three calls, with nothing beside it.
func wantErr(t *testing.T, s *base.Base, c api.Clause, lead int, want api.Errno) {
	t.Helper()
	if got, err := plan.Make(c, lead); !samePlan(got, api.Plan{}) || err != want {
		t.Errorf("P9.1: Make(%v, %d) is %v, %d; want the zero plan, %d", c, lead, got, err, want)
	}
	if l, err := plan.Solve(s, c, lead); len(l) != 0 || err != want {
		t.Errorf("P9.2: Solve(.., %v, %d) is %v, %d; want none, %d", c, lead, l, err, want)
	}
	if l, err := plan.Fire(s, c, lead); len(l) != 0 || err != want {
		t.Errorf("P9.3: Fire(.., %v, %d) is %v, %d; want none, %d", c, lead, l, err, want)
	}
}
