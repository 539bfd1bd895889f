package clause_test

import (
	"slices"
	"testing"

	"hearsay/api"
	"hearsay/clause"
)

func wantCheck(t *testing.T, c api.Clause, want api.Errno) {
	t.Helper()
	if err := clause.Check(c); err != want {
		t.Errorf("Check of %+v: %d, want %d", c, err, want)
	}
}

// P3.1: the chapter's examples 1 to 4.
func TestCheckOfTheExamples(t *testing.T) {
	for _, x := range []struct {
		c    api.Clause
		want api.Errno
	}{
		{with(rule(atom("good", v(0)), atom("friend", v(0), v(1))), test(api.OpNe, v(1), bob)), api.OK},
		{rule(atom("good", v(0))), api.ErrSafe},
		{rule(atom("good", v(0)), says(v(1), "ok")), api.ErrSafe},
		{with(rule(atom("good", bob), says(v(0), "ok")), test(api.OpNe, v(0), carl)), api.OK},
		{rule(atom("good"), says(v(1), "ok")), api.ErrNumbering},
		{rule(atom("good"), says(v(0), "ok")), api.OK},
		{rule(says(v(0), "good", v(0)), atom("ok", v(0))), api.ErrHead},
		{rule(says(alice, "good", v(0)), atom("ok", v(0))), api.OK},
		{rule(atom("p", v(1)), atom("q", v(0), v(1))), api.ErrNumbering},
		{with(rule(atom("p", v(1)), atom("q", nTimes(9, v(1))...)), test(9, v(0), v(1))), api.ErrArity},
	} {
		wantCheck(t, x.c, x.want)
	}
}

// P3.1: counts at their limits and one above.
func TestCheckOfCounts(t *testing.T) {
	one := test(api.OpEq, num(1), num(1))
	for _, x := range []struct {
		body, tests int
		want        api.Errno
	}{{0, 0, api.OK}, {8, 8, api.OK}, {9, 0, api.ErrBody}, {0, 9, api.ErrBody}, {9, 9, api.ErrBody}, {1000, 0, api.ErrBody}, {8, 1000, api.ErrBody}} {
		wantCheck(t, with(rule(atom("p"), nTimes(x.body, atom("q"))...), nTimes(x.tests, one)...), x.want)
	}
	full := rule(atom("p"))
	for i := range 8 {
		a := says(v(9*i), "q")
		for k := range 8 {
			a.Args = append(a.Args, v(9*i+1+k))
		}
		full.Body = append(full.Body, a)
	}
	wantCheck(t, full, api.OK)
	if n := clause.Vars(full); n != api.MaxVars {
		t.Errorf("the most variables: %d, want %d", n, api.MaxVars)
	}
}

// P3.1: each atom's own error, of the head and of a body atom; each way of being no test.
func TestCheckOfAtomsAndTests(t *testing.T) {
	for _, x := range []struct {
		a    api.Atom
		want api.Errno
	}{
		{atom(long(32)), api.OK}, {atom(long(33)), api.ErrName}, {atom("says"), api.ErrName}, {atom(""), api.ErrName}, {atom("P"), api.ErrName},
		{atom("p", nTimes(8, num(1))...), api.OK}, {atom("p", nTimes(9, num(1))...), api.ErrArity},
		{says(num(5), "p"), api.ErrBy}, {says(txt(""), "p"), api.ErrBy}, {says(txt(long(65)), "p"), api.ErrBy}, {says(txt(long(64)), "p"), api.OK},
		{atom("p", none), api.ErrTerm}, {atom("p", txt(long(65))), api.ErrTerm}, {atom("p", v(-1)), api.ErrTerm}, {atom("p", txt("")), api.OK}, {atom("p", num(leastInt)), api.OK},
	} {
		wantCheck(t, rule(x.a), x.want)
		wantCheck(t, rule(atom("p"), x.a), x.want)
		wantCheck(t, rule(atom("p"), atom("q"), x.a), x.want)
	}
	for _, op := range []int{leastInt, -1, 0, 5, 9, greatestInt} {
		wantCheck(t, with(rule(atom("p")), test(op, num(1), num(1))), api.ErrTest)
	}
	for op := 1; op <= 4; op++ {
		wantCheck(t, with(rule(atom("p")), test(op, num(2), txt(""))), api.OK)
	}
	for _, odd := range append(validNowhere(), none) {
		wantCheck(t, with(rule(atom("p")), test(1, num(1), num(1)), test(1, odd, num(1))), api.ErrTest)
		wantCheck(t, with(rule(atom("p")), test(1, num(1), odd), test(1, num(1), num(1))), api.ErrTest)
	}
}

// fault: something to refuse a clause for; two faults with one place that isn't 0 can't both be laid.
type fault struct {
	err   api.Errno
	place int
	lay   func(c *api.Clause)
}

func atomFaults(at func(c *api.Clause) *api.Atom, place int) []fault {
	return []fault{
		{api.ErrName, 0, func(c *api.Clause) { at(c).Name = "says" }},
		{api.ErrArity, 0, func(c *api.Clause) { at(c).Args = append(at(c).Args, nTimes(9, num(1))...) }},
		{api.ErrBy, place, func(c *api.Clause) { at(c).By = num(5) }},
		{api.ErrTerm, 0, func(c *api.Clause) { at(c).Args = append(at(c).Args, none) }},
	}
}

// allFaults: in the order in which P3.1 names them.
func allFaults() []fault {
	l := []fault{
		{api.ErrBody, 0, func(c *api.Clause) { c.Body = append(c.Body, nTimes(9, atom("q"))...) }},
		{api.ErrBody, 0, func(c *api.Clause) { c.Tests = append(c.Tests, nTimes(9, test(1, num(1), num(1)))...) }},
	}
	l = append(l, atomFaults(func(c *api.Clause) *api.Atom { return &c.Head }, 1)...)
	l = append(l, atomFaults(func(c *api.Clause) *api.Atom { return &c.Body[0] }, 2)...)
	l = append(l, atomFaults(func(c *api.Clause) *api.Atom { return &c.Body[1] }, 3)...)
	return append(l,
		fault{api.ErrTest, 0, func(c *api.Clause) { c.Tests[0].Op = 9 }},
		fault{api.ErrHead, 1, func(c *api.Clause) { c.Head.By = v(0) }},
		fault{api.ErrSafe, 0, func(c *api.Clause) { c.Tests[0].L = v(3) }},
		fault{api.ErrNumbering, 2, func(c *api.Clause) { c.Body[0].By = v(2) }},
	)
}

// P3.1, R2: of several faults, whichever they are, the first one that the table names is told.
func TestCheckTellsTheFirst(t *testing.T) {
	faults := allFaults()
	for set := range 1 << len(faults) {
		c := with(rule(atom("p", v(0)), atom("q", v(0)), atom("q", v(1))), test(api.OpLt, v(0), num(1)))
		want, taken := api.OK, make([]bool, 4)
		for i, f := range faults {
			if set>>i&1 == 0 || taken[f.place] {
				continue
			}
			taken[f.place] = f.place != 0
			f.lay(&c)
			if want == api.OK {
				want = f.err
			}
		}
		if err := clause.Check(c); err != want {
			t.Fatalf("faults %b: %d, want %d: %+v", set, err, want, c)
		}
	}
}

// plainCheck: ErrHead, ErrSafe and ErrNumbering by their words, for clauses whose atoms and tests are valid.
func plainCheck(c api.Clause) api.Errno {
	if isVariable(c.Head.By) {
		return api.ErrHead
	}
	inBody := standing(api.Clause{Body: c.Body})
	for _, t := range standing(api.Clause{Head: c.Head, Tests: c.Tests}) {
		if isVariable(t) && !slices.Contains(inBody, t) {
			return api.ErrSafe
		}
	}
	var seen []api.Term
	for _, t := range standing(c) {
		if isVariable(t) && !slices.Contains(seen, t) {
			if t.N != len(seen) {
				return api.ErrNumbering
			}
			seen = append(seen, t)
		}
	}
	return api.OK
}

// P3.1: variables everywhere, held against the words of ErrHead, ErrSafe and ErrNumbering.
func TestCheckOfVariables(t *testing.T) {
	told := map[api.Errno]int{}
	for c := range smallClauses(shapes(), []api.Term{alice, v(0), v(1), v(2)}) {
		want := plainCheck(c)
		told[want]++
		wantCheck(t, c, want)
		if t.Failed() {
			return
		}
	}
	for _, err := range []api.Errno{api.OK, api.ErrHead, api.ErrSafe, api.ErrNumbering} {
		if told[err] == 0 {
			t.Errorf("no clause with error %d among those tried", err)
		}
	}
	wantCheck(t, rule(atom("p"), atom("q", v(greatestInt))), api.ErrNumbering)
	wantCheck(t, rule(atom("p", v(greatestInt)), atom("q", v(greatestInt))), api.ErrNumbering)
}

// P3.1: what follows of valid clauses: one without a body is a fact without tests' variables.
func TestCheckOfClausesWithoutBody(t *testing.T) {
	wantCheck(t, rule(says(alice, "p", num(1), txt("a"))), api.OK)
	wantCheck(t, with(rule(atom("p")), test(api.OpEq, num(1), num(2))), api.OK)
	wantCheck(t, with(rule(atom("p")), test(api.OpEq, v(0), v(0))), api.ErrSafe)
	wantCheck(t, rule(atom("p", num(1), v(0))), api.ErrSafe)
	wantCheck(t, api.Clause{}, api.ErrName)
}
