package plan_test

import (
	"slices"
	"sync"
	"testing"

	"hearsay/api"
	"hearsay/plan"
)

// P9.6, R3, R4.

// withRoom: a copy of l with spare room behind it that isn't zero.
func withRoom[T any](l []T, behind ...T) []T {
	return append(append(make([]T, 0, len(l)+len(behind)), l...), behind...)[:len(l)]
}

func spared(x api.Atom) api.Atom {
	x.Args = withRoom(x.Args, num(71), b, v(3), ann)
	return x
}

// sparedClause: a copy of c each of whose lists has spare room that isn't zero.
func sparedClause(c api.Clause) api.Clause {
	out := api.Clause{Head: spared(c.Head)}
	for _, x := range c.Body {
		out.Body = append(out.Body, spared(x))
	}
	out.Body = withRoom(out.Body, p(a), by(ann, q(v(0), v(1))))
	out.Tests = withRoom(c.Tests, test(api.OpEq, a, b), test(9, v(0), none))
	return out
}

// whole: the clause with all spare room taken in, in new memory.
func whole(c api.Clause) api.Clause {
	c.Head.Args = c.Head.Args[:cap(c.Head.Args)]
	c.Body = slices.Clone(c.Body[:cap(c.Body)])
	for i, x := range c.Body {
		c.Body[i].Args = x.Args[:cap(x.Args)]
	}
	c.Tests = c.Tests[:cap(c.Tests)]
	return copied(c)
}

func fill[T any](l []T, mark T) {
	l = l[:cap(l)]
	for i := range l {
		l[i] = mark
	}
}

func filled[T comparable](l []T, mark T) bool {
	return !slices.ContainsFunc(l[:cap(l)], func(x T) bool { return x != mark })
}

// wantApart: no two of the lists share memory, spare room too. All are written over.
func wantApart[T comparable](t *testing.T, what string, lists [][]T, mark func(int) T) {
	t.Helper()
	for i, l := range lists {
		fill(l, mark(i))
	}
	for i, l := range lists {
		if !filled(l, mark(i)) {
			t.Errorf("R3: %s: two lists share memory", what)
			return
		}
	}
}

// someClauses: with and without bodies, variables and tests.
func someClauses(t *testing.T) []api.Clause {
	t.Helper()
	return []api.Clause{
		read(t, "on."), read(t, "alice says on(a, 5) :- 1 < 2, 2 < 1."), read(t, "on(a) :- 1 < 2."),
		read(t, pathText), read(t, "p(V0, V1, V2) :- edge(V0, V1), edge(V1, V2), V0 <= V2, 1 < 2, V1 != V2."),
		read(t, "p(a, b) :- edge(V0, V1), edge(V2, V1), V0 != d."), read(t, "good(V0) :- V1 says ok(V0), V1 != bob."),
		read(t, "good :- V0 says ok(V1), edge(V2, V1), edge(a, b), bob says ok(c)."), read(t, "p(V0) :- edge(V0, V1)."),
		read(t, "p :- edge(a, b), edge(b, c)."), read(t, "p(a, V0) :- edge(V0, V0), edge(a, V1)."),
	}
}

// TestTheClauseStays: as it is, its spare room too, behind every call, those that are refused too; and what becomes of it isn't seen.
func TestTheClauseStays(t *testing.T) {
	s := exampleBase(t)
	all := someClauses(t)
	for _, x := range refusals() {
		all = append(all, x.c)
	}
	for _, of := range all {
		for lead := -2; lead <= len(of.Body) && lead < 8; lead++ {
			c := sparedClause(of)
			before := whole(c)
			made, _ := plan.Make(c, lead)
			found, _ := plan.Solve(s, c, lead)
			heads, _ := plan.Fire(s, c, lead)
			if !sameClause(whole(c), before) {
				t.Errorf("P9.6: the clause %v has changed, lead %d", of, lead)
			}
			fill(c.Head.Args, num(99))
			for _, x := range c.Body {
				fill(x.Args, num(98))
			}
			fill(c.Tests, test(api.OpEq, a, a))
			fill(c.Body, q(d, d))
			if x, _ := plan.Make(of, lead); !samePlan(x, made) {
				t.Errorf("R3: the plan of %v is %v, was %v", of, x, made)
			}
			if x, _ := plan.Solve(s, of, lead); !sameSolutions(x, found) {
				t.Errorf("R3: the solutions of %v are %v, were %v", of, x, found)
			}
			if x, _ := plan.Fire(s, of, lead); !same(x, heads) {
				t.Errorf("R3: the heads of %v are %v, were %v", of, x, heads)
			}
		}
	}
}

// TestTheBaseStays: in all its parts, behind every call, those that are refused too.
func TestTheBaseStays(t *testing.T) {
	x := newBoth(t)
	x.add(fact(t, "edge(a, b)."), fact(t, "edge(b, c)."), fact(t, "alice says ok(b)."))
	x.turn()
	x.add(fact(t, "edge(c, d)."), fact(t, "bob says ok(c)."))
	x.turn()
	x.add(fact(t, "edge(d, e)."))
	for range 3 {
		for _, c := range someClauses(t) {
			for lead := -2; lead <= len(c.Body); lead++ {
				plan.Solve(x.s, c, lead)
				x.stays()
				plan.Fire(x.s, c, lead)
				x.stays()
			}
		}
		for _, r := range refusals() {
			wantErr(t, x.s, r.c, -1, r.err)
			x.stays()
		}
		if l, want := x.s.Preds(), []api.Pred{{Name: "edge", Arity: 2}, {Name: "ok", Arity: 1}}; !slices.Equal(l, want) {
			t.Errorf("P9.6: the base has the predicates %v, want %v", l, want)
		}
		x.turn()
	}
}

// TestPlansAreNewMemory: every list of a plan, of two plans too.
func TestPlansAreNewMemory(t *testing.T) {
	var lists [][]int
	var rows [][]api.Join
	for _, c := range someClauses(t) {
		for lead := -1; lead < len(c.Body); lead++ {
			for range 2 {
				x, _ := plan.Make(c, lead)
				lists = append(lists, x.Ahead)
				for _, j := range x.Joins[:cap(x.Joins)] {
					lists = append(lists, j.Known, j.Tests)
				}
				rows = append(rows, x.Joins)
			}
		}
	}
	wantApart(t, "Make", lists, func(i int) int { return 1000 + i })
	for i, l := range rows {
		fill(l, api.Join{Atom: 1000 + i})
	}
	for i, l := range rows {
		if slices.ContainsFunc(l, func(j api.Join) bool { return j.Atom != 1000+i }) {
			t.Errorf("R3: the joins of two plans share memory")
		}
	}
	for _, c := range someClauses(t) {
		for lead := -1; lead < len(c.Body); lead++ {
			wantMake(t, c, lead, made(c, lead))
		}
	}
}

// TestAnswersAreNewMemory: each solution and each head's arguments are a list of their own, of several answers too; none is the clause's or the base's.
func TestAnswersAreNewMemory(t *testing.T) {
	x := newBoth(t)
	x.add(fact(t, "edge(a, b)."), fact(t, "edge(b, c)."), fact(t, "edge(d, b)."), fact(t, "alice says ok(b)."), fact(t, "bob says ok(c)."))
	x.turn()
	x.turn()
	x.add(fact(t, "edge(c, d)."), fact(t, "edge(c, c)."), fact(t, "bob says ok(b)."))
	x.turn()
	clauses := someClauses(t)
	var lists [][]api.Term
	var solutions [][][]api.Term
	var heads [][]api.Atom
	for _, c := range clauses {
		lists = append(lists, c.Head.Args)
		for _, f := range c.Body {
			lists = append(lists, f.Args)
		}
		for lead := -1; lead < len(c.Body); lead++ {
			for range 2 {
				found, _ := plan.Solve(x.s, c, lead)
				lists = append(lists, found[:cap(found)]...)
				solutions = append(solutions, found)
				fired, _ := plan.Fire(x.s, c, lead)
				for _, f := range fired[:cap(fired)] {
					lists = append(lists, f.Args)
				}
				heads = append(heads, fired)
			}
		}
	}
	wantApart(t, "Solve and Fire", lists, func(i int) api.Term { return num(1000 + i) })
	for i, l := range solutions {
		fill(l, vals(num(i)))
	}
	for i, l := range solutions {
		if slices.ContainsFunc(l, func(m []api.Term) bool { return m[0] != num(i) }) {
			t.Errorf("R3: two answers of Solve share memory")
		}
	}
	for i, l := range heads {
		fill(l, p(num(i)))
	}
	for i, l := range heads {
		if slices.ContainsFunc(l, func(f api.Atom) bool { return f.Args[0] != num(i) }) {
			t.Errorf("R3: two answers of Fire share memory")
		}
	}
	x.stays()
	for _, c := range someClauses(t) {
		x.ask(c)
	}
}

// TestAskedAtOneTime: by several, of one base, for the first time by the same clauses and by others; behind new facts too.
func TestAskedAtOneTime(t *testing.T) {
	for seed := range int64(10) {
		ch := newChosen(seed)
		x := ch.base(t)
		var clauses []api.Clause
		for range 6 {
			clauses = append(clauses, ch.clause())
		}
		for range 3 {
			var wait sync.WaitGroup
			for first := range 8 {
				wait.Go(func() {
					for i := range clauses {
						x.ask(clauses[(first/2+i)%len(clauses)])
					}
				})
			}
			wait.Wait()
			x.turn()
			x.add(ch.fact(), ch.fact(), ch.fact())
		}
	}
}
