package eval_test

import (
	"fmt"
	"slices"
	"testing"

	"hearsay/api"
	"hearsay/eval"
)

// P10.1, P10.5, R2, R5, R7: the errors, their order, and the edges of the limits.

// refused: a clause, and Check's error of it.
type refused struct {
	c   api.Clause
	err api.Errno
}

// refusals: every error of Check's, wherever it comes from.
func refusals() []refused {
	ok := rule(p(v(0)), q(v(0)))
	return []refused{
		{rule(p(), nTimes(9, q())...), api.ErrBody},
		{with(ok, nTimes(9, test(api.OpEq, a, a))...), api.ErrBody},
		{rule(atom("z"), nTimes(1000, q())...), api.ErrBody},
		{api.Clause{}, api.ErrName},
		{rule(atom("says")), api.ErrName},
		{rule(p(), q(), atom(long(33))), api.ErrName},
		{rule(p(nTimes(9, a)...)), api.ErrArity},
		{rule(atom("b"), q(), q(nTimes(9, v(0))...)), api.ErrArity},
		{rule(by(num(5), p())), api.ErrBy},
		{rule(p(), by(txt(""), q())), api.ErrBy},
		{rule(atom("y"), q(), by(v(-1), q())), api.ErrBy},
		{rule(p(none)), api.ErrTerm},
		{rule(p(a), q(a, txt(long(65)))), api.ErrTerm},
		{rule(p(a), q(v(leastInt))), api.ErrTerm},
		{with(ok, test(0, a, a)), api.ErrTest},
		{with(ok, test(api.OpEq, a, a), test(api.OpEq, v(0), none)), api.ErrTest},
		{rule(by(v(0), p(v(0))), q(v(0))), api.ErrHead},
		{rule(p(v(0))), api.ErrSafe},
		{with(ok, test(api.OpNe, v(0), v(1))), api.ErrSafe},
		{with(rule(p()), test(api.OpEq, v(0), v(0))), api.ErrSafe},
		{rule(p(v(1)), q(v(1))), api.ErrNumbering},
		{rule(atom("x"), q(v(greatestInt))), api.ErrNumbering},
	}
}

// leastError: that of the least of the clauses, by the plain order.
func leastError(l []refused) api.Errno {
	return slices.MinFunc(l, func(x, y refused) int { return compareClauses(x.c, y.c) }).err
}

func clausesOf(l []refused) []api.Clause {
	var cs []api.Clause
	for _, x := range l {
		cs = append(cs, x.c)
	}
	return cs
}

// someFuels: from below 0 to the greatest.
func someFuels() []int { return numbers(leastInt, -1, 0, 1, 2, 1000, greatestInt) }

// TestClausesThatAreNotValid: alone, and ahead of, behind and amid valid ones, twice too, with every fuel.
func TestClausesThatAreNotValid(t *testing.T) {
	ok := readAll(t, "a.", "p(V0) :- q(V0).", "q(a).", "z(9).")
	for _, x := range refusals() {
		for _, fuel := range someFuels() {
			wantErr(t, []api.Clause{x.c}, fuel, x.err)
			wantErr(t, slices.Concat(ok, []api.Clause{x.c}), fuel, x.err)
			wantErr(t, slices.Concat([]api.Clause{x.c}, ok), fuel, x.err)
			wantErr(t, slices.Concat(ok[:2], []api.Clause{x.c, x.c}, ok[2:]), fuel, x.err)
		}
		wantWholeErr(t, append(ok[:3:3], x.c), x.err)
	}
}

// TestTheLeastThatIsNotValid: of two, in both orders; of four, in every order; of all, in many.
func TestTheLeastThatIsNotValid(t *testing.T) {
	l := refusals()
	for _, x := range l {
		for _, y := range l {
			wantErr(t, clausesOf([]refused{x, y}), 9, leastError([]refused{x, y}))
		}
	}
	c := newChosen(1)
	for range 20 {
		four := []refused{one(c, l...), one(c, l...), one(c, l...), one(c, l...)}
		for o := range orders(four) {
			wantErr(t, clausesOf(o), c.Intn(9), leastError(four))
		}
	}
	for len(l) > 0 {
		cs := clausesOf(l)
		wantErr(t, c.mixed(cs), 9, leastError(l))
		wantWholeErr(t, c.mixed(append(cs, cs...)), leastError(l))
		one := c.Intn(len(l))
		l = slices.Delete(l, one, one+1)
	}
}

// TestNotValidAmongTooMany: Check's error comes ahead of ErrMany, wherever the clause stands in the order of clauses.
func TestNotValidAmongTooMany(t *testing.T) {
	many := slices.Concat(facts("a", 0, 501), facts("z", 0, 500))
	wantErr(t, many, 9, api.ErrMany)
	for _, x := range refusals() {
		for _, fuel := range numbers(-1, 0, 9) {
			wantErr(t, slices.Concat(many, []api.Clause{x.c}), fuel, x.err)
			wantErr(t, slices.Concat(many[:500], []api.Clause{x.c}, many[501:]), fuel, x.err)
		}
		wantWholeErr(t, slices.Concat([]api.Clause{x.c}, many), x.err)
	}
}

// TestMany: just MaxClauses different clauses and one more, in any order and with doubles; ErrMany comes ahead of the fuel.
func TestMany(t *testing.T) {
	rules := readAll(t, "p(V0) :- n(V0).", "p(V0) :- n(V0), n(V0).", "p(V0) :- n(V0), 1 < 2.", "off :- 2 < 1.")
	full := slices.Concat(rules, facts("n", 0, 996))
	over := slices.Concat(full, facts("n", 996, 997))
	c := newChosen(2)
	m := run(t, full)
	if len(m.Rules) != 1000 || len(m.Facts) != 996*2 || m.Rounds != 3 {
		t.Errorf("P10.1: of 1000 clauses: %d rules, %d facts, %d rounds", len(m.Rules), len(m.Facts), m.Rounds)
	}
	for range 5 {
		mixed := c.mixed(slices.Concat(full, full, full[:c.Intn(1000)]))
		if x := run(t, mixed); !sameModel(x, m) {
			t.Errorf("R5: another model of %d clauses, 1000 of them different", len(mixed))
		}
		wantErr(t, mixed, 2, api.ErrFuel)
		for _, fuel := range someFuels() {
			wantErr(t, c.mixed(over), fuel, api.ErrMany)
			wantErr(t, c.mixed(slices.Concat(over, over)), fuel, api.ErrMany)
		}
		wantWholeErr(t, c.mixed(over), api.ErrMany)
	}
}

// wantFuel: so many rounds are needed, neither more nor fewer.
func wantFuel(t *testing.T, cs []api.Clause, rounds int) {
	t.Helper()
	for _, fuel := range numbers(leastInt, leastInt+1, -1<<32, -1, 0, rounds/2, rounds-1) {
		wantErr(t, cs, min(fuel, rounds-1), api.ErrFuel)
	}
	want, err := eval.Whole(cs)
	if err != api.OK || want.Rounds != rounds {
		t.Errorf("P10.5: Whole has %d rounds, %d; want %d", want.Rounds, err, rounds)
	}
	for _, fuel := range numbers(rounds, rounds+1, 2*rounds, 1<<31, 1<<32, greatestInt-1, greatestInt) {
		if m, err := eval.Run(cs, fuel, 2); !sameModel(m, want) || err != api.OK {
			t.Errorf("P10.1: with fuel %d: %v, %d; want %v, OK", fuel, m, err, want)
		}
	}
}

// TestFuel: just the number of rounds, for programs with few rounds and with many.
func TestFuel(t *testing.T) {
	wantFuel(t, nil, 1)
	wantFuel(t, readAll(t, "p :- p."), 1)
	wantFuel(t, readAll(t, "p :- 2 < 1."), 1)
	wantFuel(t, readAll(t, "p."), 2)
	wantFuel(t, readAll(t, "p.", "p :- q.", "q :- p."), 3)
	for n := range 12 {
		cs := []api.Clause{rule(q(num(0)))}
		for i := range n {
			cs = append(cs, rule(q(num(i+1)), q(num(i))))
		}
		wantFuel(t, cs, n+2)
	}
	for seed := range int64(60) {
		cs := newChosen(seed).program()
		wantFuel(t, cs, plainModel(cs).Rounds)
	}
}

// pairs: 70 facts and so many more in round 1, and the 4900 pairs of the 70 in round 2.
func pairs(t *testing.T, more int) []api.Clause {
	t.Helper()
	return slices.Concat(facts("d", 0, 70), facts("more", 0, more), readAll(t, "pair(V0, V1) :- d(V0), d(V1)."))
}

// TestMaxFacts: just 5000 facts and one more, both of which round 2 brings; the fuel on either side of it.
func TestMaxFacts(t *testing.T) {
	just := pairs(t, 30)
	m := run(t, just)
	if len(m.Facts) != api.MaxFacts || m.Rounds != 3 {
		t.Errorf("P10.1: %d facts, %d rounds; want 5000 and 3", len(m.Facts), m.Rounds)
	}
	wantFuel(t, just, 3)
	over := pairs(t, 31)
	for fuel := range 2 {
		wantErr(t, over, fuel, api.ErrFuel)
	}
	for _, fuel := range numbers(2, 3, 4, greatestInt) {
		wantErr(t, over, fuel, api.ErrFacts)
	}
	wantWholeErr(t, over, api.ErrFacts)
}

// TestMaxFactsLater: the one fact too many comes in a round of its own.
func TestMaxFactsLater(t *testing.T) {
	just := append(pairs(t, 29), read(t, "last :- pair(69, V0), pair(V0, 69)."))
	wantFuel(t, just, 4) // 70 + 29 + 4900 in two rounds, one in the third
	over := append(just, rule(atom("again"), atom("last")))
	for fuel := range 4 {
		wantErr(t, over, fuel, api.ErrFuel)
	}
	for _, fuel := range numbers(4, 5, greatestInt) {
		wantErr(t, over, fuel, api.ErrFacts)
	}
	wantWholeErr(t, over, api.ErrFacts)
}

// counter: a program each of whose rounds finds just one fact, 4970 of them and so many more.
func counter(t *testing.T, more int) []api.Clause {
	t.Helper()
	cs := readAll(t, "on.", "s(0, 1) :- on.", "c(0, 0) :- s(68, 69).", "c(V0, V1) :- c(V0, V2), s(V2, V1).", "c(V0, 0) :- c(V1, 69), s(V1, V0).")
	for n := range 68 {
		cs = append(cs, rule(atom("s", num(n+1), num(n+2)), atom("s", num(n), num(n+1))))
	}
	last := atom("c", num(69), num(69))
	for n := range more {
		next := atom(fmt.Sprintf("x%d", n))
		cs = append(cs, rule(next, last))
		last = next
	}
	return cs
}

// TestTheMostRounds: 5000 facts in 5001 rounds; and one fact more, which the round 5001 finds.
func TestTheMostRounds(t *testing.T) {
	just := counter(t, 30)
	m, err := eval.Whole(just)
	if err != api.OK || len(m.Facts) != 5000 || m.Rounds != 5001 {
		t.Errorf("P10.5: %d facts, %d rounds, %d; want 5000 and 5001", len(m.Facts), m.Rounds, err)
	}
	wantErr(t, just, 5000, api.ErrFuel)
	if x, err := eval.Run(just, 5001, 1); !sameModel(x, m) || err != api.OK {
		t.Errorf("P10.1: with just so much fuel: %d", err)
	}
	over := counter(t, 31)
	wantErr(t, over, 5000, api.ErrFuel)
	wantErr(t, over, 5001, api.ErrFacts)
	wantWholeErr(t, over, api.ErrFacts)
}
