package clause_test

import (
	"iter"
	"slices"
	"strings"
	"testing"

	"hearsay/api"
)

var (
	none  = api.Term{}
	alice = txt("alice")
	bob   = txt("bob")
	carl  = txt("carl")

	leastInt    = -1 << 63
	greatestInt = 1<<63 - 1
)

func num(n int) api.Term    { return api.Term{Kind: api.KindNum, N: n} }
func txt(s string) api.Term { return api.Term{Kind: api.KindText, S: s} }
func v(n int) api.Term      { return api.Term{Kind: api.KindVar, N: n} }

func long(n int) string { return strings.Repeat("a", n) }

func atom(name string, args ...api.Term) api.Atom { return api.Atom{Name: name, Args: args} }

func says(by api.Term, name string, args ...api.Term) api.Atom {
	return api.Atom{By: by, Name: name, Args: args}
}

func test(op int, l, r api.Term) api.Test { return api.Test{Op: op, L: l, R: r} }

func rule(head api.Atom, body ...api.Atom) api.Clause { return api.Clause{Head: head, Body: body} }

func with(c api.Clause, tests ...api.Test) api.Clause {
	c.Tests = tests
	return c
}

func nTimes[T any](n int, x T) []T { return slices.Repeat([]T{x}, n) }

// standing: the terms of the clause in the order in which they stand.
func standing(c api.Clause) []api.Term {
	var l []api.Term
	for _, a := range append([]api.Atom{c.Head}, c.Body...) {
		l = append(append(l, a.By), a.Args...)
	}
	for _, t := range c.Tests {
		l = append(l, t.L, t.R)
	}
	return l
}

// putDown: a clause of c's shape with these terms where standing found c's.
func putDown(c api.Clause, l []api.Term) api.Clause {
	take := func() api.Term {
		t := l[0]
		l = l[1:]
		return t
	}
	takeAtom := func(a api.Atom) api.Atom {
		out := api.Atom{By: take(), Name: a.Name}
		for range a.Args {
			out.Args = append(out.Args, take())
		}
		return out
	}
	out := api.Clause{Head: takeAtom(c.Head)}
	for _, a := range c.Body {
		out.Body = append(out.Body, takeAtom(a))
	}
	for _, t := range c.Tests {
		left := take()
		out.Tests = append(out.Tests, api.Test{Op: t.Op, L: left, R: take()})
	}
	return out
}

func isVariable(t api.Term) bool { return t.Kind == api.KindVar && t.N >= 0 && t.S == "" }

func isConst(t api.Term) bool {
	return t.Kind == api.KindNum && t.S == "" || t.Kind == api.KindText && t.N == 0 && len(t.S) <= 64
}

func sameAtom(a, b api.Atom) bool {
	return a.Name == b.Name && a.By == b.By && slices.Equal(a.Args, b.Args)
}

// same: field by field, nil and empty lists being one.
func same(a, b api.Clause) bool {
	return sameAtom(a.Head, b.Head) && slices.EqualFunc(a.Body, b.Body, sameAtom) && slices.Equal(a.Tests, b.Tests)
}

func sameClauses(a, b []api.Clause) bool { return slices.EqualFunc(a, b, same) }

func wantClause(t *testing.T, what string, got, want api.Clause) {
	t.Helper()
	if !same(got, want) {
		t.Errorf("%s: %+v, want %+v", what, got, want)
	}
}

// validNowhere: terms that are neither constants nor variables nor none.
func validNowhere() []api.Term {
	return []api.Term{
		{Kind: api.KindNone, N: 1}, {Kind: api.KindNone, S: "x"}, {Kind: api.KindNum, N: 5, S: "x"}, {Kind: api.KindText, N: 1, S: "x"}, {Kind: api.KindText, N: -1}, txt(long(65)),
		v(-1), v(leastInt), {Kind: api.KindVar, N: 1, S: "x"}, {Kind: 4}, {Kind: -1}, {Kind: greatestInt, N: leastInt, S: "y"}, {Kind: leastInt},
	}
}

// oddClauses: clauses that Check refuses, for every reason; with variables among what is valid nowhere.
func oddClauses() []api.Clause {
	out := []api.Clause{
		{},
		rule(atom("p", v(3), v(1)), atom("q", v(1))),
		rule(atom("p", nTimes(40, v(7))...), nTimes(30, atom("q", v(9), alice))...),
		with(rule(atom("p")), nTimes(20, test(9, v(greatestInt), num(leastInt)))...),
		rule(says(v(2), "P q", v(2), txt(long(65))), says(none, long(33)), says(num(7), "", v(0))),
	}
	for _, t := range validNowhere() {
		out = append(out, with(rule(says(t, "p", t, v(4)), says(v(4), "q", v(2), t), says(t, "q")), test(leastInt, t, v(2)), test(1, v(0), t)))
	}
	return out
}

// smallClauses: every clause of these heads' and bodies' shapes, with each of these terms at each place.
func smallClauses(shapes []api.Clause, over []api.Term) iter.Seq[api.Clause] {
	return func(yield func(api.Clause) bool) {
		for _, c := range shapes {
			for l := range tuples(len(standing(c)), over) {
				if !yield(putDown(c, l)) {
					return
				}
			}
		}
	}
}

// tuples: every list of n of these terms; one list is filled anew each time.
func tuples(n int, over []api.Term) iter.Seq[[]api.Term] {
	return func(yield func([]api.Term) bool) {
		at, l := make([]int, n), make([]api.Term, n)
		for {
			for i, k := range at {
				l[i] = over[k]
			}
			if !yield(l) {
				return
			}
			i := n - 1
			for i >= 0 && at[i] == len(over)-1 {
				at[i] = 0
				i--
			}
			if i < 0 {
				return
			}
			at[i]++
		}
	}
}

// shapes: few places, but head, body and tests, none, one or two of them.
func shapes() []api.Clause {
	return []api.Clause{
		rule(atom("p")),
		rule(atom("p", none, none)),
		rule(atom("p", none), atom("q", none)),
		rule(atom("p"), atom("q"), atom("q", none)),
		with(rule(atom("p")), test(api.OpEq, none, none)),
		with(rule(atom("p", none), atom("q", none)), test(api.OpLt, none, none)),
		with(rule(atom("p"), atom("q")), test(api.OpNe, none, none), test(api.OpLe, none, none)),
	}
}
