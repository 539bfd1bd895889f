package goal_test

import (
	"slices"
	"testing"

	"hearsay/api"
	"hearsay/eval"
	"hearsay/goal"
)

// P16.3: where Whole gives a model, the answers of each goal are those of the model.

// wantOfModel: how many answers the goals have in all.
func wantOfModel(t *testing.T, cs []api.Clause, m api.Model, x api.Atom) int {
	t.Helper()
	calls, answers := tables(t, cs, x)
	if want := eval.Answers(m, x); !same(answers, want) {
		t.Errorf("P16.3: Ask(%q, %s) is %q, the model's are %q", told(cs), toldAtom(x), toldAtoms(answers), toldAtoms(want))
	}
	n := 0
	for _, c := range calls {
		if want := eval.Answers(m, c.Goal); !same(c.Answers, want) {
			t.Errorf("P16.3: of %q, asked %s: the goal %s has the answers %q, the model's are %q", told(cs), toldAtom(x), toldAtom(c.Goal), toldAtoms(c.Answers), toldAtoms(want))
		}
		n += len(c.Answers)
	}
	return n
}

func modelOf(t *testing.T, cs []api.Clause) api.Model {
	t.Helper()
	m, err := eval.Whole(cs)
	if err != api.OK {
		t.Fatalf("%q: %d", told(cs), err)
	}
	return m
}

// TestTheSameAnswers: over clauses by chance, each asked several queries, and each fact of its model.
func TestTheSameAnswers(t *testing.T) {
	n := 0
	for seed := range int64(1500) {
		c := newChosen(seed)
		cs := c.clauses()
		m := modelOf(t, cs)
		for range 6 {
			n += wantOfModel(t, cs, m, c.query(cs))
		}
		for _, k := range m.Facts {
			wantAnswers(t, cs, k.Fact, toldAtom(k.Fact))
		}
	}
	if n < 15000 {
		t.Errorf("just %d answers", n)
	}
}

// TestTheSameAnswersOfGraphs: over edges by chance, the ways along them in all forms of recursion at once, with tests and with those who say so.
func TestTheSameAnswersOfGraphs(t *testing.T) {
	forms := texts(
		"path(X, Y) :- edge(X, Z), path(Z, Y).",
		"path(X, Y) :- path(X, Z), edge(Z, Y).",
		"path(X, Y) :- path(X, Z), path(Z, Y).",
		"path(X, Y) :- up(X, Y). up(X, Y) :- edge(X, Z), path(Z, Y), X < Y.",
		"path(X, Y) :- U says link(X, Z), path(Z, Y), U != X. ann says link(X, Y) :- edge(Y, X).",
		"path(X, X) :- path(X, Y), path(Y, X).")
	for seed := range int64(150) {
		c := newChosen(seed)
		cs := program(t, "path(X, Y) :- edge(X, Y).")
		for range 3 {
			cs = append(cs, program(t, one(c, forms...))...)
		}
		for range 2 + c.Intn(8) {
			cs = append(cs, rule(atom("edge", num(c.Intn(6)), num(c.Intn(6)))))
		}
		m := modelOf(t, cs)
		for _, x := range atoms(atom("path", v(0), v(1)), atom("path", num(c.Intn(6)), v(3)), atom("path", v(3), num(c.Intn(6))), atom("path", v(2), v(2)), atom("path", num(1), num(c.Intn(6)))) {
			wantOfModel(t, cs, m, x)
		}
	}
}

// TestMoreClausesMoreAnswers: T9: none is lost.
func TestMoreClausesMoreAnswers(t *testing.T) {
	more := 0
	for seed := range int64(800) {
		c := newChosen(seed)
		cs := c.clauses()
		x := c.query(cs)
		_, few := tables(t, cs, x)
		_, many := tables(t, c.mixed(append(c.clauses(), cs...)), x)
		for _, f := range few {
			if !slices.ContainsFunc(many, func(y api.Atom) bool { return sameAtom(y, f) }) {
				t.Errorf("T9: %q, %s: the answer %s is lost", told(cs), toldAtom(x), toldAtom(f))
			}
		}
		more += count(len(many) > len(few))
	}
	if more < 100 {
		t.Errorf("just %d times there are more", more)
	}
}

// TestAnswersAreFacts: each is one that its goal becomes, and in order, none twice; so are the goals, each numbered from 0 on.
func TestAnswersAreFacts(t *testing.T) {
	for seed := range int64(600) {
		c := newChosen(seed)
		cs := c.clauses()
		x := c.query(cs)
		calls, err := goal.Tables(cs, x)
		if err != api.OK {
			t.Fatal(err)
		}
		for i, y := range calls {
			if !sameAtom(y.Goal, goalOf(y.Goal)) || i > 0 && compareAtoms(calls[i-1].Goal, y.Goal) >= 0 {
				t.Errorf("P16.1: of %q, %s: the goals are %q", told(cs), toldAtom(x), toldCalls(calls))
			}
			for k, f := range y.Answers {
				_, ok := unified(y.Goal, rule(f))
				if len(varsOf(atoms(f))) > 0 || !ok || k > 0 && compareAtoms(y.Answers[k-1], f) >= 0 {
					t.Errorf("P16.1: of %q, %s: the goal %s has the answers %q", told(cs), toldAtom(x), toldAtom(y.Goal), toldAtoms(y.Answers))
				}
			}
		}
	}
}
