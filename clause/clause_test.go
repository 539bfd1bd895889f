package clause_test

import (
	"math/rand"
	"slices"
	"testing"

	"hearsay/api"
	"hearsay/clause"
)

// P3.2: the chapter's examples 2 and 4, and clauses whose variables stand first in tests or as qualifiers.
func TestNormalOfTheExamples(t *testing.T) {
	for _, x := range []struct{ c, want api.Clause }{
		{rule(atom("good"), says(v(1), "ok")), rule(atom("good"), says(v(0), "ok"))},
		{rule(atom("p", v(1)), atom("q", v(0), v(1))), rule(atom("p", v(0)), atom("q", v(1), v(0)))},
		{rule(says(v(9), "p", v(4), v(9)), says(v(2), "q", v(4))), rule(says(v(0), "p", v(1), v(0)), says(v(2), "q", v(1)))},
		{with(rule(atom("p"), atom("q", v(3))), test(1, v(2), v(0)), test(9, v(3), v(greatestInt))), with(rule(atom("p"), atom("q", v(0))), test(1, v(1), v(2)), test(9, v(0), v(3)))},
		{rule(atom("p", v(-1), v(5), api.Term{Kind: api.KindVar, N: 1, S: "x"})), rule(atom("p", v(-1), v(0), api.Term{Kind: api.KindVar, N: 1, S: "x"}))},
		{api.Clause{}, api.Clause{}},
	} {
		wantClause(t, "Normal", clause.Normal(x.c), x.want)
	}
}

// plainNormal: the k-th different variable becomes number k.
func plainNormal(c api.Clause) api.Clause {
	l := standing(c)
	var seen []api.Term
	for i, t := range l {
		if isVariable(t) {
			if !slices.Contains(seen, t) {
				seen = append(seen, t)
			}
			l[i] = v(slices.Index(seen, t))
		}
	}
	return putDown(c, l)
}

// renamed: each variable becomes another one, one to one.
func renamed(c api.Clause, to map[int]int) api.Clause {
	l := standing(c)
	for i, t := range l {
		if isVariable(t) {
			l[i] = v(to[t.N])
		}
	}
	return putDown(c, l)
}

// P3.2: every small clause, its normal form's, and a renaming of it.
func TestNormal(t *testing.T) {
	to := map[int]int{0: 7, 1: greatestInt, 5: 1}
	for c := range smallClauses(shapes(), []api.Term{alice, v(0), v(1), v(5), v(-1)}) {
		n := clause.Normal(c)
		if !same(n, plainNormal(c)) {
			t.Fatalf("Normal of %+v: %+v, want %+v", c, n, plainNormal(c))
		}
		if !same(clause.Normal(n), n) {
			t.Fatalf("Normal of Normal of %+v: %+v", c, clause.Normal(n))
		}
		if r := renamed(c, to); !same(clause.Normal(r), n) {
			t.Fatalf("Normal of %+v, renamed: %+v, want %+v", c, clause.Normal(r), n)
		}
		if len(c.Tests) == 0 && clause.Check(c) == api.ErrNumbering && clause.Check(n) != api.OK {
			t.Fatalf("Check of Normal of %+v: %d", c, clause.Check(n))
		}
	}
	for _, c := range oddClauses() {
		wantClause(t, "Normal", clause.Normal(c), plainNormal(c))
	}
}

// P3.2, R1: more variables than a valid clause can have.
func TestNormalOfManyVariables(t *testing.T) {
	const n = 100000
	c, want := rule(atom("p")), rule(atom("p"))
	for i := range n {
		c.Head.Args = append(c.Head.Args, v(3*(n-i)))
		want.Head.Args = append(want.Head.Args, v(i))
	}
	wantClause(t, "Normal", clause.Normal(c), want)
	if got := clause.Vars(c); got != n {
		t.Errorf("Vars: %d, want %d", got, n)
	}
}

// P3.5: the chapter's example 1; every small clause; what is no variable isn't counted.
func TestVars(t *testing.T) {
	for _, x := range []struct {
		c    api.Clause
		want int
	}{
		{with(rule(atom("good", v(0)), atom("friend", v(0), v(1))), test(api.OpNe, v(1), bob)), 2},
		{rule(atom("p", alice, num(0), num(1))), 0},
		{rule(atom("p", v(-1), v(leastInt), api.Term{Kind: api.KindVar, N: 1, S: "x"})), 0},
		{with(rule(says(v(1), "p", v(2)), says(v(3), "q", v(4))), test(9, v(5), v(greatestInt))), 6},
		{api.Clause{}, 0},
	} {
		if n := clause.Vars(x.c); n != x.want {
			t.Errorf("Vars of %+v: %d, want %d", x.c, n, x.want)
		}
	}
	for c := range smallClauses(shapes(), []api.Term{alice, v(0), v(1), v(5), v(-1)}) {
		if n := clause.Vars(c); n != plainVars(c) {
			t.Fatalf("Vars of %+v: %d, want %d", c, n, plainVars(c))
		}
	}
	for _, c := range oddClauses() {
		if n := clause.Vars(c); n != plainVars(c) {
			t.Errorf("Vars of %+v: %d, want %d", c, n, plainVars(c))
		}
	}
}

func plainVars(c api.Clause) int {
	var seen []api.Term
	for _, t := range standing(c) {
		if isVariable(t) && !slices.Contains(seen, t) {
			seen = append(seen, t)
		}
	}
	return len(seen)
}

// P3.6: the chapter's example 8; fewer and more values than variables; what comes in isn't replaced again.
func TestInstanceOfTheExamples(t *testing.T) {
	c := rule(atom("p", v(0)), atom("q", v(0), v(1)))
	a := txt("a")
	for _, x := range []struct {
		vals []api.Term
		want api.Clause
	}{
		{[]api.Term{a}, rule(atom("p", a), atom("q", a, v(1)))},
		{[]api.Term{v(1), v(0)}, rule(atom("p", v(1)), atom("q", v(1), v(0)))},
		{nil, c},
		{[]api.Term{}, c},
		{[]api.Term{a, bob}, rule(atom("p", a), atom("q", a, bob))},
		{[]api.Term{a, bob, carl, v(0)}, rule(atom("p", a), atom("q", a, bob))},
		{[]api.Term{v(1), a}, rule(atom("p", v(1)), atom("q", v(1), a))},
		{[]api.Term{none, v(-1)}, rule(atom("p", none), atom("q", none, v(-1)))},
	} {
		wantClause(t, "Instance", clause.Instance(c, x.vals), x.want)
	}
	everywhere := with(rule(says(v(0), "p", v(1)), says(v(2), "q", v(1))), test(9, v(0), v(1)), test(api.OpEq, v(2), v(3)))
	want := with(rule(says(bob, "p", num(5)), says(v(2), "q", num(5))), test(9, bob, num(5)), test(api.OpEq, v(2), v(3)))
	wantClause(t, "Instance", clause.Instance(everywhere, []api.Term{bob, num(5)}), want)
}

func plainInstance(c api.Clause, vals []api.Term) api.Clause {
	l := standing(c)
	for i, t := range l {
		if isVariable(t) && t.N < len(vals) {
			l[i] = vals[t.N]
		}
	}
	return putDown(c, l)
}

// P3.6, R1: any clauses and any terms as values.
func TestInstance(t *testing.T) {
	lists := [][]api.Term{nil, {v(2)}, {v(1), v(0)}, append(validNowhere(), none, v(1)), nTimes(100, alice)}
	for c := range smallClauses(shapes(), []api.Term{alice, v(0), v(1), v(greatestInt), v(-1)}) {
		for _, vals := range lists {
			if got := clause.Instance(c, vals); !same(got, plainInstance(c, vals)) {
				t.Fatalf("Instance of %+v, %+v: %+v, want %+v", c, vals, got, plainInstance(c, vals))
			}
		}
	}
	for _, c := range oddClauses() {
		for _, vals := range lists {
			wantClause(t, "Instance", clause.Instance(c, vals), plainInstance(c, vals))
		}
	}
}

func wantQuoteError(t *testing.T, u string, c api.Clause, want api.Errno) {
	t.Helper()
	q, err := clause.Quote(u, c)
	if err != want {
		t.Errorf("Quote(%q, %+v): error %d, want %d", u, c, err, want)
	}
	if want != api.OK && !same(q, api.Clause{}) {
		t.Errorf("R2: Quote(%q, %+v): %+v beside an error", u, c, q)
	}
}

// P3.7: the chapter's examples 3 and 5; which error comes first.
func TestQuoteErrors(t *testing.T) {
	p, said, wrong := rule(atom("p")), rule(says(alice, "good", v(0)), atom("ok", v(0))), rule(atom("says"))
	for _, u := range []string{"", long(65), long(1000)} {
		wantQuoteError(t, u, p, api.ErrPrincipal)
		wantQuoteError(t, u, said, api.ErrPrincipal)
		wantQuoteError(t, u, wrong, api.ErrPrincipal)
	}
	for _, u := range []string{"a", "alice", long(64), "\x00", "A b", "says"} {
		wantQuoteError(t, u, p, api.OK)
		wantQuoteError(t, u, said, api.ErrQualified)
		wantQuoteError(t, u, wrong, api.ErrName)
	}
	wantQuoteError(t, "bob", rule(says(alice, "p", v(0))), api.ErrSafe)
	wantQuoteError(t, "bob", rule(says(alice, "p", v(1)), atom("q", v(1))), api.ErrNumbering)
	wantQuoteError(t, "bob", rule(says(v(0), "p"), atom("q", v(0))), api.ErrHead)
	wantQuoteError(t, "alice", rule(says(alice, "p")), api.ErrQualified)
	for _, c := range oddClauses() {
		wantQuoteError(t, "bob", c, clause.Check(c))
		wantQuoteError(t, "", c, api.ErrPrincipal)
	}
}

// P3.7: the chapter's example 5: body atoms without a qualifier, with a principal, with a variable.
func TestQuoteOfTheExamples(t *testing.T) {
	less := test(api.OpLt, v(0), num(7))
	c := with(rule(atom("good", v(0)), atom("friend", v(0), v(1)), says(v(1), "ok", v(0)), says(bob, "on")), less)
	want := with(rule(says(alice, "good", v(0)), says(alice, "friend", v(0), v(1)), says(v(1), "ok", v(0)), says(bob, "on")), less)
	q, err := clause.Quote("alice", c)
	wantClause(t, "Quote", q, want)
	if err != api.OK {
		t.Errorf("Quote: error %d", err)
	}
}

// quotables: every small clause that can be quoted, in all three kinds of body qualifiers.
func quotables() []api.Clause {
	l := []api.Clause{
		rule(atom("p")),
		with(rule(atom("p", v(0), alice), atom("q", num(3), v(0)), says(bob, "q", v(1))), test(api.OpLe, v(1), v(0))),
	}
	for c := range smallClauses([]api.Clause{rule(atom("p", none), atom("q", none)), rule(atom("p"), atom("q"), atom("q", none))}, []api.Term{none, alice, bob, v(0), v(1)}) {
		if clause.Check(c) == api.OK && c.Head.By == none {
			l = append(l, c)
		}
	}
	return l
}

// plainSame: the same, but that one may have none where the other has u as a body atom's qualifier.
func plainSame(u api.Term, a, b api.Clause) bool {
	filled := func(c api.Clause) api.Clause {
		c = putDown(c, standing(c))
		for i := range c.Body {
			if c.Body[i].By == none {
				c.Body[i].By = u
			}
		}
		return c
	}
	return same(filled(a), filled(b))
}

// P3.7: what Quote answers is valid, has as many variables, and is one quote just where the chapter says so.
func TestQuote(t *testing.T) {
	l := quotables()
	if len(l) < 40 {
		t.Fatalf("only %d clauses to quote", len(l))
	}
	var quotes []api.Clause
	for _, c := range l {
		q, err := clause.Quote("alice", c)
		if err != api.OK || clause.Check(q) != api.OK || clause.Vars(q) != clause.Vars(c) {
			t.Fatalf("Quote of %+v: %+v, %d", c, q, err)
		}
		other, _ := clause.Quote("bob", c)
		if same(q, other) {
			t.Fatalf("Quote of %+v by alice and by bob: %+v", c, q)
		}
		quotes = append(quotes, q)
	}
	for i := range l {
		for k := range l {
			if one := same(quotes[i], quotes[k]); one != plainSame(alice, l[i], l[k]) {
				t.Fatalf("one quote: %t, of %+v and %+v", one, l[i], l[k])
			}
		}
	}
}

// P3.11: an instance of the quote is what quoting makes of the instance.
func TestQuotesAndInstances(t *testing.T) {
	for _, c := range quotables() {
		for _, vals := range [][]api.Term{{bob, num(3)}, {alice, alice}, {txt(""), carl}, {num(1)}} {
			q, _ := clause.Quote("alice", c)
			want := clause.Instance(c, vals)
			want.Head.By = alice
			for i, a := range c.Body {
				if a.By == none {
					want.Body[i].By = alice
				}
			}
			wantClause(t, "Instance of Quote", clause.Instance(q, vals), want)
		}
	}
}

// P3.2, P3.6: clauses of any size, against the plain ways.
func TestRandomClauses(t *testing.T) {
	r := rand.New(rand.NewSource(3))
	for range 3000 {
		c := randomClause(r)
		vals := nTimes(r.Intn(6), randomTerm(r))
		wantClause(t, "Normal", clause.Normal(c), plainNormal(c))
		wantClause(t, "Instance", clause.Instance(c, vals), plainInstance(c, vals))
		if n := clause.Vars(c); n != plainVars(c) {
			t.Errorf("Vars of %+v: %d, want %d", c, n, plainVars(c))
		}
	}
}

func randomTerm(r *rand.Rand) api.Term {
	switch r.Intn(5) {
	case 0:
		return none
	case 1:
		return []api.Term{alice, bob, txt(""), num(r.Intn(3) - 1)}[r.Intn(4)]
	case 2:
		return validNowhere()[r.Intn(len(validNowhere()))]
	}
	return v(r.Intn(6))
}

func randomAtom(r *rand.Rand) api.Atom {
	a := says(randomTerm(r), []string{"p", "q", "says", ""}[r.Intn(4)])
	for range r.Intn(4) {
		a.Args = append(a.Args, randomTerm(r))
	}
	return a
}

func randomClause(r *rand.Rand) api.Clause {
	c := rule(randomAtom(r))
	for range r.Intn(4) {
		c.Body = append(c.Body, randomAtom(r))
	}
	for range r.Intn(3) {
		c.Tests = append(c.Tests, test(r.Intn(6), randomTerm(r), randomTerm(r)))
	}
	return c
}
