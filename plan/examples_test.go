package plan_test

import (
	"testing"

	"hearsay/api"
	"hearsay/base"
)

// The chapter's examples, one by one, over the base that they are told of.

func exampleBase(t *testing.T) *base.Base {
	t.Helper()
	old := atoms(fact(t, "edge(a, b)."), fact(t, "edge(b, c)."), fact(t, "alice says ok(b)."))
	young := atoms(fact(t, "edge(c, d)."), fact(t, "bob says ok(c)."))
	return parts(t, old, young, atoms(fact(t, "edge(d, e).")))
}

const pathText = "path(V0, V1) :- edge(V0, V2), edge(V2, V1)."

func TestExample1(t *testing.T) {
	misnumbered := rule(atom("path", v(0), v(2)), atom("edge", v(0), v(1)), atom("edge", v(1), v(2)))
	wantErr(t, exampleBase(t), misnumbered, -1, api.ErrNumbering)
	path := read(t, pathText)
	wantMake(t, path, -1, joins(join(0, numbers(0), nil), join(1, numbers(0, 1), nil)))
	wantMake(t, path, 1, joins(join(1, numbers(0), nil), join(0, numbers(0, 2), nil)))
}

func TestExample2(t *testing.T) {
	s, path := exampleBase(t), read(t, pathText)
	wantSolve(t, s, path, -1, vals(a, c, b), vals(b, d, c))
	wantSolve(t, s, path, 0)
	wantSolve(t, s, path, 1, vals(b, d, c))
}

func TestExample3(t *testing.T) {
	wantFire(t, exampleBase(t), read(t, pathText), -1, fact(t, "path(a, c)."), fact(t, "path(b, d)."))
}

func TestExample4(t *testing.T) {
	s, good := exampleBase(t), read(t, "good(V0) :- V1 says ok(V0), V1 != bob.")
	wantMake(t, good, -1, joins(join(0, nil, numbers(0))))
	wantSolve(t, s, good, -1, vals(b, txt("alice")))
	wantSolve(t, s, good, 0)
}

func TestExample5(t *testing.T) {
	s, twice := exampleBase(t), read(t, "twice(V0) :- edge(V0, V0).")
	wantMake(t, twice, -1, joins(join(0, numbers(0), nil)))
	wantSolve(t, s, twice, -1)
	wantSolve(t, s, twice, 0)
}

func TestExample6(t *testing.T) {
	s := exampleBase(t)
	far := with(rule(atom("far", v(0)), atom("edge", v(0), v(1))), test(api.OpLt, num(1), num(2)), test(api.OpLt, a, num(1)))
	wantMake(t, far, -1, api.Plan{Ahead: numbers(0, 1), Joins: []api.Join{join(0, numbers(0), nil)}})
	wantSolve(t, s, far, -1)
	on := read(t, "on.")
	wantMake(t, on, -1, api.Plan{})
	wantSolve(t, s, on, -1, vals())
	wantFire(t, s, on, -1, atom("on"))
	wantErr(t, s, on, 0, api.ErrLead)
}

func TestExample7(t *testing.T) {
	wantMake(t, read(t, "join(V0) :- p(V0, V1), q(V1, a, V2), r."), -1, joins(join(1, numbers(0, 2), nil), join(0, numbers(0, 2), nil), join(2, numbers(0), nil)))
}

func TestExample8(t *testing.T) {
	two := read(t, "two(V0, V1) :- p(V0), p(V1).")
	wantMake(t, two, -1, joins(join(0, numbers(0), nil), join(1, numbers(0), nil)))
	back := read(t, "two(V0, V1) :- p(V1), p(V0).")
	wantMake(t, back, -1, joins(join(0, numbers(0), nil), join(1, numbers(0), nil)))
}
