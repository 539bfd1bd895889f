package imply_test

import (
	"testing"

	"hearsay/api"
)

// The examples of chapter 15, by their numbers.

const (
	t1 = "path(V0, V1) :- edge(V0, V1)."
	t2 = "path(V0, V1) :- edge(V0, V2), path(V2, V1)."
	t3 = "path(V0, V1) :- path(V0, V2), path(V2, V1)."
	t4 = "path(V0, V1) :- path(V0, V2), edge(V2, V1)."
)

func TestExample2(t *testing.T) {
	wantFrozen(t, nil, read(t, t2), "edge(f0, f2)", "path(f2, f1)", "path(f0, f1)")
	wantFrozen(t, readAll(t, "p(f1)."), read(t, t2), "edge(f0, f3)", "path(f3, f2)", "path(f0, f2)")
}

func TestExample3(t *testing.T) {
	wantImplied(t, readAll(t, t1, t3), read(t, t2), true)
	wantImplied(t, readAll(t, t1, t2), read(t, t3), false)
	// Over facts of edge alone the two programs have the same paths.
	edges := readAll(t, "edge(a, b).", "edge(b, c).", "edge(c, a).", "edge(c, d).", "edge(e, e).")
	wantSameModel(t, "example 3", readAll(t, t1, t3), readAll(t, t1, t2), edges)
}

func TestExample4(t *testing.T) {
	wantRedundant(t, readAll(t, t1, t2, t3), t2)
	wantMinimal(t, readAll(t, t1, t2, t3, t4), t1, t3)
	// The way there.
	if got := told(setOf(readAll(t, t1, t2, t3, t4))); got[0] != t1 || got[1] != t2 || got[2] != t4 || got[3] != t3 {
		t.Errorf("the order is %q", got)
	}
	wantImplied(t, readAll(t, t1, t2, t4), read(t, t3), false)
	wantImplied(t, readAll(t, t1, t2, t3), read(t, t4), true)
	wantImplied(t, readAll(t, t1, t3), read(t, t2), true)
	wantImplied(t, readAll(t, t3), read(t, t1), false)
}

func TestExample5(t *testing.T) {
	wantImplied(t, nil, read(t, "p(a)."), false)
	wantImplied(t, readAll(t, "p(a)."), read(t, "p(a)."), true)
	wantImplied(t, readAll(t, "p(V0) :- q(V0)."), read(t, "p(a) :- q(a)."), true)
	wantImplied(t, readAll(t, "p(a) :- q(a)."), read(t, "p(V0) :- q(V0)."), false)
}

func TestExample6(t *testing.T) {
	wantFrozen(t, nil, read(t, "a says ok(V0) :- V1 says ok(V0)."), "f1 says ok(f0)", "a says ok(f0)")
	wantImplied(t, readAll(t, "a says ok(V0) :- V1 says ok(V0)."), read(t, "a says ok(V0) :- b says ok(V0)."), true)
}

func TestExample7(t *testing.T) {
	wantEqual(t, readAll(t, t1, t3), readAll(t, t1, t2, t3), true)
	wantEqual(t, nil, nil, true)
	wantEqual(t, readAll(t, "p."), nil, false)
}

func TestExample8(t *testing.T) {
	test, ok, bad := read(t, "p :- 1 < 2."), read(t, "p."), rule(p(v(0)))
	wantImpliesErr(t, rules(ok, test), ok, api.ErrTests)
	wantImpliesErr(t, rules(ok), test, api.ErrTests)
	wantFreezeErr(t, rules(test), ok, api.ErrTests)
	wantFreezeErr(t, nil, test, api.ErrTests)
	wantRedundantErr(t, rules(test), api.ErrTests)
	wantMinimalErr(t, rules(ok, test), api.ErrTests)
	wantImpliesErr(t, rules(test, bad), ok, api.ErrSafe)
	wantImpliesErr(t, rules(test), bad, api.ErrSafe)
	wantFreezeErr(t, rules(bad), test, api.ErrSafe)
	wantRedundantErr(t, rules(test, bad), api.ErrSafe)
	wantMinimalErr(t, rules(bad, test), api.ErrSafe)
	wantEqualErr(t, rules(test), rules(bad), api.ErrTests)
}
