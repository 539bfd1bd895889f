package world_test

import (
	"testing"

	"hearsay/api"
	"hearsay/cert"
	"hearsay/world"
)

// TestExamples: the chapter's, one by one, in one world of the secret "s".
func TestExamples(t *testing.T) {
	w := world.New([]byte("s"))
	for _, example := range []func(*testing.T, *world.World){exampleOfBob, exampleOfAlice, exampleOfExporting, exampleOfImporting, exampleOfQuerying, exampleOfCrashing, exampleOfForging} {
		example(t, w)
	}
}

func exampleOfBob(t *testing.T, w *world.World) {
	wantTold(t, w, doEnroll("bob"), done)
	wantRefused(t, w, doEnroll("bob"), api.ErrEnrolled, 0)
	wantRefused(t, w, doEnroll(""), api.ErrPrincipal, 0)
	wantRefused(t, w, doAssert("eve", "p."), api.ErrNoContext, 0)
	wantRefused(t, w, api.Do{Kind: 0}, api.ErrStep, 0)
}

func exampleOfAlice(t *testing.T, w *world.World) {
	wantTold(t, w, doEnroll("alice"), done)
	wantTold(t, w, doAssert("alice", "good(carl)."), toldN(1))
	wantTold(t, w, doAssert("alice", "good(carl)."), toldN(0))
}

func exampleOfExporting(t *testing.T, w *world.World) {
	wantTold(t, w, doExport("alice", "good(carl).", 0), sent(1, idOf(certificate("s", "alice", "good(carl)."))))
	wantRefused(t, w, doExport("alice", "good(dan).", 9), api.ErrNotHeld, 0)
	wantLook(t, w, doWaiting(), toldNums(1))
}

func exampleOfImporting(t *testing.T, w *world.World) {
	wantTold(t, w, doImport("bob", 1), sent(1, idOf(certificate("s", "alice", "good(carl)."))))
	wantLook(t, w, doClauses("bob"), toldClauses("alice says good(carl)."))
	wantLook(t, w, doWaiting(), toldNums())
	wantRefused(t, w, doImport("bob", 1), api.ErrNoMessage, 0)
}

func exampleOfQuerying(t *testing.T, w *world.World) {
	wantTold(t, w, doAssert("bob", "may(X) :- alice says good(X)."), toldN(1))
	got := w.Do(doQuery("bob", "may(Y)?", 3))
	if got.Err != api.OK || got.N != 3 || !same(got.Atoms, atoms("may(carl)")) || len(got.Proofs) != 1 || len(got.Proofs[0].Steps) != 2 {
		t.Errorf("example 5: %s", shownTold(got))
	}
	wantRefused(t, w, doQuery("bob", "may(Y)?", 2), api.ErrFuel, 0)
	wantLook(t, w, doAsk("bob", "may(Y)?"), toldAtoms("may(carl)"))
}

func exampleOfCrashing(t *testing.T, w *world.World) {
	wantTold(t, w, doCrash("bob", 1000000), toldN(2))
	wantTold(t, w, doCrash("bob", 0), toldN(0))
	wantLook(t, w, doClauses("bob"), done)
}

func exampleOfForging(t *testing.T, w *world.World) {
	wantRefused(t, w, doFlip(1, 0, 1), api.ErrNoMessage, 0)
	wantTold(t, w, doForge("x"), toldN(2))
	wantTold(t, w, doFlip(2, 0, 1), done)
	wantRefused(t, w, doFlip(2, 1, 1), api.ErrPlace, 0)
	_, err := cert.Read([]byte("y"))
	wantRefused(t, w, doImport("bob", 2), err, 0)
	wantLook(t, w, doWaiting(), toldNums(2))
	wantRow(t, w, "2:y")
}
