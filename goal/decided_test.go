package goal_test

import (
	"slices"
	"testing"

	"hearsay/api"
)

// P16.1, rules 2 to 4: when a test is decided, and that what isn't reached then isn't asked.

// TestWithoutVariables: decided ahead of all atoms; a clause without atoms gives its head, if all hold.
func TestWithoutVariables(t *testing.T) {
	for _, c := range []struct {
		tests string
		holds bool
	}{
		{"1 < 2", true}, {"2 < 1", false}, {"1 < 1", false}, {"1 <= 1", true}, {"2 <= 1", false}, {"a = a", true}, {"a = b", false}, {"a != a", false}, {"a != b", true},
		{"9 < \"\"", true}, {"\"1\" < 1", false}, {"1 = \"1\"", false}, {"1 != \"1\"", true}, {"-1 < 0, 0 < 1", true}, {"1 < 2, 2 < 1", false}, {"2 < 1, 1 < 2", false},
	} {
		alone, ahead, behind := texts("p: "), texts("p: "), texts("p: ")
		if c.holds {
			alone, ahead, behind = texts("p: p"), texts("p: p", "q: q"), texts("p: ", "r: ")
		}
		wantTable(t, program(t, "p :- "+c.tests+". q."), "p", alone...)
		wantTable(t, program(t, "p :- "+c.tests+", q. q."), "p", ahead...)
		wantTable(t, program(t, "p :- r, "+c.tests+", q. q."), "p", behind...)
	}
	wantTable(t, program(t, "ann says p(1, a) :- 1 != a. ann says p(2, a) :- 1 = a."), "X says p(Y, Z)", "V0 says p(V1, V2): ann says p(1, a)")
	// All eight have to hold.
	hold := test(api.OpLe, num(1), num(1))
	cs := rules(with(rule(p(), q()), nTimes(8, hold)...), rule(q()))
	wantTable(t, cs, "p", "p: p", "q: q")
	for i := range 8 {
		tests := nTimes(8, hold)
		tests[i].Op = api.OpLt
		wantTable(t, rules(with(rule(p(), q()), tests...), rule(q())), "p", "p: ")
	}
}

// TestDecidedByTheHead: by what the goal says of its variables, and by what they have in common.
func TestDecidedByTheHead(t *testing.T) {
	cs := program(t, "p(X, Y) :- q(X), q(Y), X < Y. q(1). q(2).")
	wantTable(t, cs, "p(1, 2)", "p(1, 2): p(1, 2)", "q(1): q(1)", "q(2): q(2)")
	wantTable(t, cs, "p(2, 1)", "p(2, 1): ")
	wantTable(t, cs, "p(1, 1)", "p(1, 1): ")
	wantTable(t, cs, "p(3, 4)", "p(3, 4): ", "q(3): ")
	// Half of it isn't enough; nor are two variables that have become one, even though no value fits.
	wantTable(t, cs, "p(1, X)", "p(1, V0): p(1, 2)", "q(1): q(1)", "q(V0): q(1), q(2)")
	wantTable(t, cs, "p(9, X)", "p(9, V0): ", "q(9): ")
	wantTable(t, cs, "p(X, X)", "p(V0, V0): ", "q(V0): q(1), q(2)")
	wantTable(t, program(t, "p(X) :- q(X), X != X. q(1)."), "p(X)", "p(V0): ", "q(V0): q(1)")
	wantTable(t, program(t, "p(X) :- q(X), X != X. q(1)."), "p(1)", "p(1): ")
	// By a constant of the head, as the query has one variable twice.
	cs = program(t, "p(X, a) :- q(X), X != a. q(a). q(b).")
	wantTable(t, cs, "p(X, X)", "p(V0, V0): ")
	wantTable(t, cs, "p(X, Y)", "p(V0, V1): p(b, a)", "q(V0): q(a), q(b)")
	cs = program(t, "ann says p(X) :- q(X), X != ann. q(ann).")
	wantTable(t, cs, "X says p(X)", "V0 says p(V0): ")
	wantTable(t, cs, "X says p(Y)", "V0 says p(V1): ", "q(V0): q(ann)")
	// One test is decided and doesn't hold, another one isn't decided.
	wantTable(t, program(t, "p(X) :- q(X, Y), Y < 5, X = 1. q(2, 3)."), "p(2)", "p(2): ")
	wantTable(t, program(t, "p(X) :- q(X, Y), Y < 5, X = 1. q(1, 3). q(1, 7)."), "p(1)", "p(1): p(1)", "q(1, V0): q(1, 3), q(1, 7)")
}

// TestDecidedOnTheWay: by an atom that isn't the last one; the next one is asked for those alone with which it holds.
func TestDecidedOnTheWay(t *testing.T) {
	cs := program(t, "p(X, Y) :- q(X), r(X, Y), s(Y), X < 3, Y != 7. q(1). q(2). q(3). q(4). r(1, 7). r(1, 8). r(2, 9). r(3, 9). s(7). s(8).")
	wantTable(t, cs, "p(X, Y)",
		"p(V0, V1): p(1, 8)", "q(V0): q(1), q(2), q(3), q(4)", "r(1, V0): r(1, 7), r(1, 8)", "r(2, V0): r(2, 9)", "s(8): s(8)", "s(9): ")
	wantTable(t, cs, "p(X, 7)", "p(V0, 7): ")
	wantTable(t, cs, "p(X, 8)", "p(V0, 8): p(1, 8)", "q(V0): q(1), q(2), q(3), q(4)", "r(1, 8): r(1, 8)", "r(2, 8): ", "s(8): s(8)")
	wantTable(t, cs, "p(3, X)", "p(3, V0): ")
	wantTable(t, cs, "p(5, X)", "p(5, V0): ")
	// Two variables, decided as the second one has its value.
	cs = program(t, "p(X, Y) :- q(X), q(Y), r(X, Y), X < Y. q(1). q(2). r(1, 2). r(2, 1).")
	wantTable(t, cs, "p(X, Y)", "p(V0, V1): p(1, 2)", "q(V0): q(1), q(2)", "r(1, 2): r(1, 2)")
	// A qualifier's variable.
	cs = program(t, "p(X) :- U says q(X), r(X), U != bob. ann says q(1). bob says q(2). r(1). r(2).")
	wantTable(t, cs, "p(X)", "p(V0): p(1)", "V0 says q(V1): ann says q(1), bob says q(2)", "r(1): r(1)")
}

// TestDecidedBehindTheLast: all atoms have been asked by then.
func TestDecidedBehindTheLast(t *testing.T) {
	cs := program(t, "p(X) :- q(X), r(Y), X <= Y. q(1). q(5). r(3). r(4).")
	wantTable(t, cs, "p(X)", "p(V0): p(1)", "q(V0): q(1), q(5)", "r(V0): r(3), r(4)")
	wantTable(t, cs, "p(5)", "p(5): ", "q(5): q(5)", "r(V0): r(3), r(4)")
	cs = program(t, "p :- q(X), r(X, Y), Y = 2. q(1). r(1, 3).")
	wantTable(t, cs, "p", "p: ", "q(V0): q(1)", "r(1, V0): r(1, 3)")
	wantTable(t, append(cs, program(t, "r(1, 2).")...), "p", "p: p", "q(V0): q(1)", "r(1, V0): r(1, 2), r(1, 3)")
}

// TestEveryOperator: on the order of constants, over answers.
func TestEveryOperator(t *testing.T) {
	facts := `d(-1). d(0). d(1). d(""). d("1"). d(a). d(ab). d(b). `
	for _, c := range []struct {
		test string
		want []string
	}{
		{"X = a", texts("p(a)")},
		{"X = 1", texts("p(1)")},
		{"X != a", texts("p(-1)", "p(0)", "p(1)", `p("")`, `p("1")`, "p(ab)", "p(b)")},
		{"X < 1", texts("p(-1)", "p(0)")},
		{"X <= 1", texts("p(-1)", "p(0)", "p(1)")},
		{"1 < X", texts(`p("")`, `p("1")`, "p(a)", "p(ab)", "p(b)")},
		{"X < ab", texts("p(-1)", "p(0)", "p(1)", `p("")`, `p("1")`, "p(a)")},
		{"ab <= X", texts("p(ab)", "p(b)")},
		{"X <= \"\"", texts("p(-1)", "p(0)", "p(1)", `p("")`)},
		{"a <= X, X < b", texts("p(a)", "p(ab)")},
	} {
		cs := program(t, facts+"p(X) :- d(X), "+c.test+".")
		wantAsk(t, cs, "p(X)", c.want...)
		// Asked for one by one, what isn't so is decided ahead of d.
		for _, x := range []api.Term{num(-1), num(0), num(1), txt(""), txt("1"), a, txt("ab"), b} {
			told := toldAtom(p(x))
			goals, _ := goalsOf(t, cs, p(x))
			if holds := slices.Contains(c.want, told); goals != 1+count(holds) {
				t.Errorf("%s, %s: %d goals", c.test, told, goals)
			}
		}
	}
}

// TestNotReached: behind an atom without answers nothing is asked; the atoms are asked in their order.
func TestNotReached(t *testing.T) {
	wantTable(t, program(t, "p :- q, r. r. r :- s."), "p", "p: ", "q: ")
	wantTable(t, program(t, "p :- r, q. r. r :- s."), "p", "p: ", "q: ", "r: r", "s: ")
	wantTable(t, program(t, "p(X) :- q(X), r(X), s(X). q(1). q(2). q(3). r(2). r(3). s(3). s(4)."), "p(X)",
		"p(V0): p(3)", "q(V0): q(1), q(2), q(3)", "r(1): ", "r(2): r(2)", "r(3): r(3)", "s(2): ", "s(3): s(3)")
	// Another clause reaches it.
	wantTable(t, program(t, "p :- q, r. p :- r. r."), "p", "p: p", "q: ", "r: r")
}
