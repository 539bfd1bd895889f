package eval_test

import (
	"slices"
	"testing"

	"hearsay/api"
)

// The chapter's examples, one by one.

func exampleChain(t *testing.T) []api.Clause {
	t.Helper()
	return readAll(t, "edge(a, b).", "edge(b, c).", "path(V0, V1) :- edge(V0, V1).", "path(V0, V1) :- edge(V0, V2), path(V2, V1).")
}

func TestExample1(t *testing.T) {
	wantModel(t, nil, 1)
	wantModel(t, []api.Clause{}, 1)
	wantFuel(t, nil, 1)
}

func TestExample2(t *testing.T) {
	cs := exampleChain(t)
	for o := range orders(cs) {
		wantModel(t, o, 4, "edge(a, b) 1 0 []", "edge(b, c) 1 1 []", "path(a, b) 2 2 [a, b]", "path(a, c) 3 3 [a, c, b]", "path(b, c) 2 2 [b, c]")
		if m := run(t, o); !slices.EqualFunc(m.Rules, cs, sameClause) {
			t.Errorf("P10.1: the rules are %v, want %v", syntaxAll(m.Rules), syntaxAll(cs))
		}
	}
	wantFuel(t, cs, 4)
}

func TestExample3(t *testing.T) {
	wantModel(t, readAll(t, "p(a).", "p(V0) :- q(V0).", "q(a).", "q(V0) :- p(V0)."), 2, "p(a) 1 0 []", "q(a) 1 2 []")
}

func TestExample4(t *testing.T) {
	wantModel(t, readAll(t, "r(V0) :- s(V0, V1).", "s(a, 2).", "s(a, 1).", `s(a, "1").`), 3, "r(a) 2 0 [a, 1]", "s(a, 1) 1 1 []", "s(a, 2) 1 2 []", `s(a, "1") 1 3 []`)
}

func TestExample5(t *testing.T) {
	wantModel(t, readAll(t, "t :- u, v.", "u.", "v."), 3, "t 2 0 []", "u 1 1 []", "v 1 2 []")
	wantModel(t, readAll(t, "t :- t."), 1)
}

func TestExample6(t *testing.T) {
	cs := readAll(t, "alice says good(V0) :- V1 says friend(V0), V1 != bob.", "bob says friend(x).", "carl says friend(x).", "friend(y).")
	wantModel(t, cs, 3, "friend(y) 1 0 []", "bob says friend(x) 1 1 []", "carl says friend(x) 1 2 []", "alice says good(x) 2 3 [x, carl]")
}

func TestExample7(t *testing.T) {
	cs := append(facts("d", 0, 10), read(t, "p(V0, V1, V2, V3) :- d(V0), d(V1), d(V2), d(V3)."))
	wantErr(t, cs, 1, api.ErrFuel)
	for _, fuel := range numbers(2, 3, 4, 5000, greatestInt) {
		wantErr(t, cs, fuel, api.ErrFacts)
	}
	wantWholeErr(t, cs, api.ErrFacts)
}

func TestExample8(t *testing.T) {
	unsafe, noName := rule(p(v(0))), rule(atom("Says"))
	many := facts("n", 0, 2000)
	for _, fuel := range numbers(leastInt, 0, 1, greatestInt) {
		wantErr(t, []api.Clause{unsafe}, fuel, api.ErrSafe)
		wantErr(t, []api.Clause{unsafe, noName}, fuel, api.ErrName)
		wantErr(t, []api.Clause{noName, unsafe}, fuel, api.ErrName)
		wantErr(t, slices.Concat([]api.Clause{unsafe}, many, []api.Clause{noName}), fuel, api.ErrName)
		wantErr(t, slices.Concat([]api.Clause{noName}, many, []api.Clause{unsafe}), fuel, api.ErrName)
		wantErr(t, slices.Concat(many, []api.Clause{unsafe}), fuel, api.ErrSafe)
		wantErr(t, many, fuel, api.ErrMany)
	}
}

func TestExample9(t *testing.T) {
	m := run(t, exampleChain(t))
	path := func(x, y api.Term) api.Atom { return atom("path", x, y) }
	c := txt("c")
	wantAnswers(t, m, path(v(0), v(1)), path(a, b), path(a, c), path(b, c))
	wantAnswers(t, m, path(v(0), v(0)))
	wantAnswers(t, m, path(a, v(5)), path(a, b), path(a, c))
	wantAnswers(t, m, atom("edge", a, b), atom("edge", a, b))
	wantAnswers(t, m, by(v(0), path(v(1), v(2))))
}

func TestExample10(t *testing.T) {
	m := api.Model{Rules: []api.Clause{{}}, Facts: []api.Known{{Fact: p(b), Round: -7, Rule: 9}, {Fact: p(a), Vals: terms(none, a)}, {Fact: p(b), Rule: -1}}, Rounds: -1}
	wantAnswers(t, m, p(v(0)), p(a), p(b))
}
