package subsume_test

import (
	"testing"

	"hearsay/api"
)

// The examples of chapter 14, by their numbers.

func TestExample1(t *testing.T) {
	wantValues(t, "p(V0) :- q(V0).", "p(a) :- q(a), r.", "a")
	wantNot(t, "p(a) :- q(a), r.", "p(V0) :- q(V0).")
	wantValues(t, "p(V0) :- q(V0, V1).", "p(V0) :- q(V0, V1), q(V0, a).", "V0 a")
	// With V2 in the place of V1 the numbering isn't right.
	wantNotSubsumed(t, read(t, "p(V0) :- q(V0, V1)."), rule(p(v(0)), q(v(0), v(2)), q(v(0), a)))
}

func TestExample2(t *testing.T) {
	wantValues(t, "p :- q(V0), q(V1).", "p :- q(a).", "a a")
	wantNot(t, "p :- q(a).", "p :- q(V0).")
}

func TestExample3(t *testing.T) {
	wantNot(t, "p(V0) :- V1 says q(V0).", "p(b) :- q(b).")
	wantValues(t, "p(V0) :- V1 says q(V0).", "p(b) :- ann says q(b).", "b ann")
	wantValues(t, "p(V0) :- V1 says q(V0).", "p(V0) :- V1 says q(V0).", "V0 V1")
}

func TestExample4(t *testing.T) {
	wantValues(t, "p(V0) :- q(V0), V0 != a.", "p(b) :- q(b).", "b")
	wantNot(t, "p(V0) :- q(V0), V0 != a.", "p(a) :- q(a).")
	wantNot(t, "p(V0) :- q(V0), V0 != a.", "p(V0) :- q(V0).")
	wantValues(t, "p(V0) :- q(V0), V0 != a.", "p(V0) :- q(V0), V0 != a, V0 != b.", "V0")
}

func TestExample5(t *testing.T) {
	cs := readAll(t, "p(V0) :- q(V0).", "p(a) :- q(a).", "p(V0) :- q(V0), q(V1).", "p(b).")
	wantReduced(t, cs, "p(b).", "p(V0) :- q(V0).")
}

func TestExample6(t *testing.T) {
	wantCondensed(t, "p(V0) :- q(V0), q(V1).", "p(V0) :- q(V0).")
	wantCondensed(t, "p :- q(V0), q(a), q(V1).", "p :- q(a).")
	wantNot(t, "p :- q(V0), q(a).", "p :- q(V0).")
	wantCondensed(t, "p :- q, q, q.", "p :- q.")
	wantCondensed(t, "p(V0) :- q(V0), 1 < 2, V0 != a, V0 != a.", "p(V0) :- q(V0), V0 != a.")
}

func TestExample7(t *testing.T) {
	wantStays(t, "p(V0) :- e(V0, V1), e(V1, V0), e(V2, V2).")
	wantCondensed(t, "p :- e(V0, V1), e(V1, V0), e(V2, V2).", "p :- e(V0, V0).")
	wantCondensed(t, "p :- e(V0, V1), e(V2, V2).", "p :- e(V0, V0).")
}

func TestExample8(t *testing.T) {
	bad := rule(p(v(0)))
	wantCondenseErr(t, bad, api.ErrSafe)
	wantReduceErr(t, rules(bad), api.ErrSafe)
	for _, c := range readAll(t, "p(a).", "p(V0) :- q(V0).") {
		wantNotSubsumed(t, bad, c)
		wantNotSubsumed(t, c, bad)
	}
	wantNotSubsumed(t, bad, bad)
}
