package why_test

import (
	"testing"

	"hearsay/api"
)

// The examples of chapter 13, by their numbers.

func exampleList(t *testing.T) []api.Clause {
	t.Helper()
	return readAll(t, "p :- q.", "p :- r.", "q.", "r.", "s :- p, q.")
}

func exampleSayings(t *testing.T) []api.Clause {
	t.Helper()
	return readAll(t, "ann says good(V0) :- bob says ok(V0).", "bob says ok(a).", "ok(b).", "ann says good(b).")
}

func TestExample1(t *testing.T) {
	l := exampleList(t)
	wantWithout(t, l, "ann", l...) // the set is the list as it stands
	wantSupport(t, l, p(), "p :- q.", "q.")
}

func TestExample2(t *testing.T) {
	l, s := exampleList(t), atom("s")
	wantNeeded(t, l, p())
	wantNeeded(t, l, s, "q.", "s :- p, q.")
	wantSupport(t, l, s, "p :- q.", "q.", "s :- p, q.")
}

func TestExample3(t *testing.T) {
	for _, f := range atoms(atom("t"), p(a), p(v(0)), by(v(0), p()), by(v(0), q())) {
		wantErr(t, exampleList(t), f, api.ErrNoFact)
	}
	wantErr(t, rules(rule(p(v(0)))), p(a), api.ErrSafe)
}

func TestExample4(t *testing.T) {
	l := exampleSayings(t)
	wantWithout(t, l, "bob", readAll(t, "ann says good(b).", "ann says good(V0) :- bob says ok(V0).", "ok(b).")...)
	wantLoss(t, l, "bob", "ann says good(a)", "bob says ok(a)")
	wantLoss(t, l, "ann", "ann says good(a)", "ann says good(b)")
	wantLoss(t, l, "carl")
	wantLoss(t, l, "")
}

func TestExample5(t *testing.T) {
	l := exampleList(t)
	c := newChosen(5)
	for range 50 {
		mixed := c.doubled(l)
		wantSupport(t, mixed, p(), "p :- q.", "q.")
		wantSupport(t, mixed, atom("s"), "p :- q.", "q.", "s :- p, q.")
		wantBoth(t, mixed, q(), "q.")
	}
	wantBoth(t, l, q(), "q.")
}
