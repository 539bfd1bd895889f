package clause_test

import (
	"cmp"
	"math/big"
	"math/rand"
	"slices"
	"strconv"
	"testing"

	"hearsay/api"
	"hearsay/clause"
)

// P3.8: the chapter's examples 1 and 9; qualifiers and both sides of tests; what is no constant isn't told.
func TestConstsOfTheExamples(t *testing.T) {
	a := txt("a")
	for _, x := range []struct {
		cs   []api.Clause
		want []api.Term
	}{
		{[]api.Clause{with(rule(atom("good", v(0)), atom("friend", v(0), v(1))), test(api.OpNe, v(1), bob))}, []api.Term{bob}},
		{[]api.Clause{with(rule(atom("p", num(7)), says(alice, "q", v(0), a)), test(api.OpLt, v(0), num(7)))}, []api.Term{num(7), a, alice}},
		{[]api.Clause{rule(says(carl, "p", num(greatestInt))), rule(says(bob, "p", num(leastInt)), says(alice, "q"))}, []api.Term{num(leastInt), num(greatestInt), alice, bob, carl}},
		{[]api.Clause{with(rule(atom("p")), test(9, num(3), txt("")), test(0, num(2), num(3)))}, []api.Term{num(2), num(3), txt("")}},
		{[]api.Clause{rule(atom("p", validNowhere()...), says(txt(long(65)), "q", none, v(0), txt(long(64))))}, []api.Term{txt(long(64))}},
		{nil, nil},
		{[]api.Clause{{}}, nil},
	} {
		if got := clause.Consts(x.cs); !slices.Equal(got, x.want) {
			t.Errorf("Consts of %+v: %+v, want %+v", x.cs, got, x.want)
		}
	}
}

// plainConsts: what stands there, sorted by kind, number and text, doubles left out.
func plainConsts(cs []api.Clause) []api.Term {
	var l []api.Term
	for _, c := range cs {
		for _, t := range standing(c) {
			if isConst(t) {
				l = append(l, t)
			}
		}
	}
	slices.SortFunc(l, func(a, b api.Term) int {
		return cmp.Or(cmp.Compare(a.Kind, b.Kind), cmp.Compare(a.N, b.N), cmp.Compare(a.S, b.S))
	})
	return slices.Compact(l)
}

// plainPreds: as plainConsts.
func plainPreds(cs []api.Clause) []api.Pred {
	var l []api.Pred
	for _, c := range cs {
		for _, a := range append([]api.Atom{c.Head}, c.Body...) {
			l = append(l, api.Pred{Name: a.Name, Arity: len(a.Args)})
		}
	}
	slices.SortFunc(l, func(a, b api.Pred) int { return cmp.Or(cmp.Compare(a.Name, b.Name), cmp.Compare(a.Arity, b.Arity)) })
	return slices.Compact(l)
}

// P3.8, P3.9, R4, R5: many clauses, in any order, again and again the same.
func TestConstsAndPreds(t *testing.T) {
	r := rand.New(rand.NewSource(4))
	for range 300 {
		cs := nTimes(1, randomClause(r))
		for range r.Intn(12) {
			cs = append(cs, randomClause(r), cs[r.Intn(len(cs))])
		}
		consts, preds := plainConsts(cs), plainPreds(cs)
		for range 5 {
			if got := clause.Consts(cs); !slices.Equal(got, consts) {
				t.Fatalf("Consts of %+v: %+v, want %+v", cs, got, consts)
			}
			if got := clause.Preds(cs); !slices.Equal(got, preds) {
				t.Fatalf("Preds of %+v: %+v, want %+v", cs, got, preds)
			}
			r.Shuffle(len(cs), func(i, k int) { cs[i], cs[k] = cs[k], cs[i] })
		}
	}
}

// P3.9: the chapter's example 9; names that are none and atoms with too many arguments, too.
func TestPredsOfTheExamples(t *testing.T) {
	for _, x := range []struct {
		cs   []api.Clause
		want []api.Pred
	}{
		{[]api.Clause{with(rule(atom("p", num(7)), says(alice, "q", v(0), txt("a"))), test(api.OpLt, v(0), num(7)))}, []api.Pred{{Name: "p", Arity: 1}, {Name: "q", Arity: 2}}},
		{[]api.Clause{rule(atom("q"), atom("p", num(1), num(2))), rule(atom("p", num(3)), says(bob, "q"), atom("pp"))}, []api.Pred{{Name: "p", Arity: 1}, {Name: "p", Arity: 2}, {Name: "pp"}, {Name: "q"}}},
		{[]api.Clause{rule(atom("says"), atom(""), atom("P q"), atom(long(33), nTimes(50, none)...))}, []api.Pred{{}, {Name: "P q"}, {Name: long(33), Arity: 50}, {Name: "says"}}},
		{[]api.Clause{{}}, []api.Pred{{}}},
		{nil, nil},
	} {
		if got := clause.Preds(x.cs); !slices.Equal(got, x.want) {
			t.Errorf("Preds of %+v: %+v, want %+v", x.cs, got, x.want)
		}
	}
}

// counted: clauses with just so many predicates, constants, and so great an arity.
func counted(preds, consts, arity int) []api.Clause {
	var cs []api.Clause
	for i := range preds {
		cs = append(cs, rule(atom("p"+strconv.Itoa(i), nTimes(arity, v(0))...)))
	}
	for i := range consts {
		cs = append(cs, with(cs[0], test(api.OpEq, num(i), num(i))))
	}
	return cs
}

// P3.10: the chapter's example 10.
func TestBoundOfTheExamples(t *testing.T) {
	var many []api.Clause
	for i := range 300 {
		many = append(many, rule(atom("p", nTimes(8, num(i))...)))
	}
	for _, x := range []struct {
		cs   []api.Clause
		want int
	}{
		{nil, 1},
		{[]api.Clause{rule(atom("p"))}, 2},
		{[]api.Clause{rule(atom("p", txt("a"))), rule(atom("q", v(0), v(1)), atom("p", v(0)), atom("p", v(1)))}, 17},
		{many, 4611686018427387904},
		{[]api.Clause{{}}, 2},
		{[]api.Clause{with(rule(says(alice, "p"), says(bob, "q", nTimes(3, none)...)), test(9, num(1), txt(long(65))))}, 2*4*4*4*4 + 1},
	} {
		if n := clause.Bound(x.cs); n != x.want {
			t.Errorf("Bound of %+v: %d, want %d", x.cs, n, x.want)
		}
	}
}

// plainBound: as a number of mathematics, and 2^62 if that is above it.
func plainBound(preds, consts, arity int) int {
	n := new(big.Int).Exp(big.NewInt(int64(consts)+1), big.NewInt(int64(arity)+1), nil)
	n.Mul(n, big.NewInt(int64(preds))).Add(n, big.NewInt(1))
	if top := new(big.Int).Lsh(big.NewInt(1), 62); n.Cmp(top) > 0 {
		n = top
	}
	return int(n.Int64())
}

// P3.10: held against great numbers, on both sides of 2^62.
func TestBound(t *testing.T) {
	for _, preds := range []int{1, 2, 3, 7, 255, 256, 257} {
		for _, consts := range []int{0, 1, 2, 7, 62, 63, 64, 117, 118} {
			for _, arity := range []int{0, 1, 2, 5, 7, 8, 9, 20, 63, 64, 200} {
				if n, want := clause.Bound(counted(preds, consts, arity)), plainBound(preds, consts, arity); n != want {
					t.Fatalf("Bound with %d predicates, %d constants, arity %d: %d, want %d", preds, consts, arity, n, want)
				}
			}
		}
	}
}

// P3.10: 1023 * 2^52 + 1 is just below 2^62, 1024 * 2^52 + 1 just above; so with valid clauses 255 and 256 * 64^9.
func TestBoundAroundTheGreatest(t *testing.T) {
	for _, x := range []struct{ preds, consts, arity, want int }{
		{1023, 1, 51, 1<<62 - 1<<52 + 1}, {1024, 1, 51, 1 << 62}, {1025, 1, 51, 1 << 62},
		{255, 63, 8, 1<<62 - 1<<54 + 1}, {256, 63, 8, 1 << 62}, {257, 63, 8, 1 << 62},
		{1, 1, 60, 1<<61 + 1}, {1, 1, 61, 1 << 62}, {1, 1, 62, 1 << 62}, {1, 1, 63, 1 << 62}, {1, 1, 64, 1 << 62},
		{1, 0, 5000, 2}, {1, 0, 0, 2},
	} {
		if n := clause.Bound(counted(x.preds, x.consts, x.arity)); n != x.want {
			t.Errorf("Bound with %d predicates, %d constants, arity %d: %d, want %d", x.preds, x.consts, x.arity, n, x.want)
		}
	}
}
