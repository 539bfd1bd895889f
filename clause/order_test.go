package clause_test

import (
	"math/rand"
	"slices"
	"testing"

	"hearsay/api"
	"hearsay/clause"
)

// rising: clauses of which each stands ahead of all behind it, one for each field that decides.
func rising() []api.Clause {
	p, q := atom("p"), atom("q")
	odd := api.Term{Kind: -1}
	return []api.Clause{
		{},
		rule(atom("o", num(1), num(2)), q, q),
		rule(p),
		with(rule(p), test(leastInt, num(9), num(9))),
		with(rule(p), test(1, odd, num(9))),
		with(rule(p), test(1, num(-1), num(9))),
		with(rule(p), test(1, num(1), num(1))),
		with(rule(p), test(1, num(1), num(2))),
		with(rule(p), test(1, num(2), num(0))),
		with(rule(p), test(2, num(1), num(1))),
		with(rule(p), test(1, num(1), num(1)), test(1, num(1), num(1))),
		with(rule(p), test(1, num(1), num(1)), test(1, num(1), alice)),
		with(rule(p), test(1, num(1), num(1)), test(1, num(1), v(0))),
		with(rule(p), test(2, num(0), num(0)), test(1, num(0), num(0))),
		rule(p, atom("o")),
		rule(p, q),
		with(rule(p, q), test(api.OpLt, num(1), num(2))),
		rule(p, says(alice, "q")),
		rule(p, says(v(0), "q")),
		rule(p, atom("q", num(3))),
		rule(p, atom("o"), atom("o")),
		rule(p, atom("o"), q),
		rule(p, q, atom("o")),
		rule(p, p, p, p),
		rule(says(alice, "p")),
		rule(says(bob, "p")),
		rule(says(v(0), "p")),
		rule(atom("p", num(1))),
		rule(atom("p", num(2)), q),
		rule(atom("p", txt("a"))),
		rule(atom("p", txt("b"))),
		rule(atom("p", num(1), num(1))),
		rule(atom("pp")),
	}
}

// P3.3: the chapter's example 6.
func TestCompareOfTheExamples(t *testing.T) {
	p, pq := rule(atom("p")), rule(atom("p"), atom("q"))
	for _, ahead := range [][2]api.Clause{
		{p, pq}, {pq, with(pq, test(api.OpLt, num(1), num(2)))}, {pq, rule(atom("p", txt("a")))}, {pq, rule(says(alice, "p"))},
	} {
		if n := clause.Compare(ahead[0], ahead[1]); n != -1 {
			t.Errorf("Compare(%+v, %+v): %d, want -1", ahead[0], ahead[1], n)
		}
		if n := clause.Compare(ahead[1], ahead[0]); n != 1 {
			t.Errorf("Compare(%+v, %+v): %d, want 1", ahead[1], ahead[0], n)
		}
	}
}

// P3.3: each field decides where those named ahead of it are the same.
func TestCompare(t *testing.T) {
	l := rising()
	for i, a := range l {
		for k, b := range l {
			want := 0
			if i < k {
				want = -1
			} else if i > k {
				want = 1
			}
			if n := clause.Compare(a, b); n != want {
				t.Errorf("Compare(%+v, %+v): %d, want %d", a, b, n, want)
			}
		}
	}
}

// P3.3: 0 just for clauses that are equal field by field, in one way round as in the other; a total order.
func TestCompareIsATotalOrder(t *testing.T) {
	r := rand.New(rand.NewSource(1))
	l := append(rising(), oddClauses()...)
	for range 60 {
		l = append(l, randomClause(r))
	}
	for _, a := range l {
		for _, b := range l {
			n := clause.Compare(a, b)
			if n != -clause.Compare(b, a) || n < -1 || n > 1 || n == 0 != same(a, b) {
				t.Fatalf("Compare of %+v and %+v: %d, the other way round %d", a, b, n, clause.Compare(b, a))
			}
			for _, c := range l {
				if n <= 0 && clause.Compare(b, c) <= 0 && clause.Compare(a, c) > 0 {
					t.Fatalf("Compare: not in order: %+v, %+v, %+v", a, b, c)
				}
			}
		}
	}
}

// P3.3: nil and empty lists are one; a copy is the same.
func TestCompareOfNilAndEmpty(t *testing.T) {
	empty := api.Clause{Head: api.Atom{Name: "p", Args: []api.Term{}}, Body: []api.Atom{}, Tests: []api.Test{}}
	if n := clause.Compare(empty, rule(atom("p"))); n != 0 {
		t.Errorf("Compare: %d, want 0", n)
	}
	if l := clause.Set([]api.Clause{empty, {Head: api.Atom{Name: "p"}}}); len(l) != 1 {
		t.Errorf("Set: %+v, want one clause", l)
	}
}

// P3.4: the chapter's example 7.
func TestSetOfTheExamples(t *testing.T) {
	a, b := rule(atom("p", txt("a"))), rule(atom("p", txt("b")))
	if l := clause.Set([]api.Clause{b, a, b}); !sameClauses(l, []api.Clause{a, b}) {
		t.Errorf("Set: %+v", l)
	}
	if len(clause.Set(nil)) != 0 || len(clause.Set([]api.Clause{})) != 0 {
		t.Error("Set of nothing isn't nothing")
	}
}

// P3.4, R5: in any order and with doubles, and of clauses that aren't valid, the same.
func TestSet(t *testing.T) {
	r := rand.New(rand.NewSource(2))
	want := rising()
	for range 200 {
		l := slices.Concat(want, want[:r.Intn(len(want))], want[r.Intn(len(want)):])
		r.Shuffle(len(l), func(i, k int) { l[i], l[k] = l[k], l[i] })
		if got := clause.Set(l); !sameClauses(got, want) {
			t.Fatalf("Set of %+v: %+v", l, got)
		}
	}
	many := slices.Concat(oddClauses(), oddClauses())
	got := clause.Set(many)
	if len(got) != len(oddClauses()) || !slices.IsSortedFunc(got, clause.Compare) {
		t.Errorf("Set of clauses that aren't valid: %+v", got)
	}
	for _, c := range many {
		if !slices.ContainsFunc(got, func(g api.Clause) bool { return same(g, c) }) {
			t.Errorf("Set left out %+v", c)
		}
	}
}
