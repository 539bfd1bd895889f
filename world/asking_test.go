package world_test

import (
	"strings"
	"testing"

	"hearsay/api"
	"hearsay/check"
	"hearsay/world"
)

// P24.2: DoQuery, DoAsk, DoWatch, DoNews, DoWhy, DoLoss, DoClauses, DoRedundant.

// askedSteps: ann has what bob says, and rules.
func askedSteps() []api.Do {
	return steps(doEnroll("ann"), doEnroll("bob"), doAssert("bob", "good(x). good(y). friend(X, Y) :- good(X), good(Y)."), doExport("bob", "good(x).", 0), doExport("bob", "good(y).", 0), doImport("ann", 1), doImport("ann", 2),
		doAssert("ann", "may(X) :- bob says good(X). may(z). far(X, Y) :- may(X), may(Y), X != Y."))
}

// wantQuery: these answers in so many rounds, each with a derivation that the checker accepts against the context's clauses.
func wantQuery(t *testing.T, w *world.World, who, text string, fuel, rounds int, want ...string) {
	t.Helper()
	d := doQuery(who, text, fuel)
	got := w.Do(d)
	if len(got.Proofs) != len(want) || !sameTold(got, api.Told{N: rounds, Atoms: atoms(want...), Proofs: got.Proofs}) {
		t.Errorf("P24.2: Do(%s) is %s, want %q in %d rounds", shownDo(d), shownTold(got), want, rounds)
		return
	}
	clauses := w.Do(doClauses(who)).Clauses
	for i, p := range got.Proofs {
		if err := check.Check(clauses, p, got.Atoms[i]); err != api.OK {
			t.Errorf("T4: the derivation of %v: %d", got.Atoms[i], err)
		}
	}
}

// TestQuery: with fuel that is just enough, more, and one less.
func TestQuery(t *testing.T) {
	w := worldOf(t, askedSteps()...)
	for _, fuel := range ints(4, 5, 100, greatestInt) {
		wantQuery(t, w, "ann", "may(X)?", fuel, 4, "may(x)", "may(y)", "may(z)")
		wantQuery(t, w, "ann", "far(x, Y)?", fuel, 4, "far(x, y)", "far(x, z)")
		wantQuery(t, w, "ann", "W says good(X)?", fuel, 4, "bob says good(x)", "bob says good(y)")
		wantQuery(t, w, "ann", "never(X)?", fuel, 4)
		wantQuery(t, w, "ann", "far(X, X)?", fuel, 4)
	}
	for _, fuel := range ints(3, 2, 1, 0, -1, leastInt) {
		wantRefused(t, w, doQuery("ann", "may(X)?", fuel), api.ErrFuel, 0)
		wantRefused(t, w, doQuery("ann", "may(X)", fuel), api.ErrSyntax, 6)
		wantRefused(t, w, doQuery("nobody", "may(X)", fuel), api.ErrNoContext, 0)
	}
	wantStill(t, "a query", w, func() { w.Do(doQuery("ann", "far(X, Y)?", 9)) })
	wantQuery(t, enrolled(t, "ann"), "ann", "p?", 1, 1)
}

// TestFaultsOfQueries: with their places, of every kind that reads a query.
func TestFaultsOfQueries(t *testing.T) {
	w := worldOf(t, askedSteps()...)
	for _, x := range []struct {
		text string
		err  api.Errno
		at   int
	}{
		{"", api.ErrSyntax, 0}, {"may(X", api.ErrSyntax, 5}, {"may(X).", api.ErrSyntax, 6}, {"may(X)? p", api.ErrSyntax, 8}, {"  \"\" says p?", api.ErrBy, 2}, {"may(&)?", api.ErrByte, 4}, {"may(00)?", api.ErrNumber, 4},
		{"p(\"a)?", api.ErrOpen, 2}, {" " + long(33) + "?", api.ErrName, 1}, {"p(" + long(65) + ")?", api.ErrTerm, 0}, {"p(1,2,3,4,5,6,7,8,9)?", api.ErrArity, 0}, {"p?" + strings.Repeat(" ", api.MaxText-1), api.ErrTextLong, 0},
	} {
		for _, d := range steps(doQuery("ann", x.text, 9), doQuery("ann", x.text, 0), doAsk("ann", x.text), doWatch("ann", x.text), doWhy("ann", x.text), doProve("ann", x.text, 9), doProve("ann", x.text, 0)) {
			wantRefused(t, w, d, x.err, x.at)
			d.Who = "nobody"
			wantRefused(t, w, d, api.ErrNoContext, 0)
		}
	}
	wantTold(t, w, doWatch("ann", "p?"+strings.Repeat(" ", api.MaxText-2)), toldN(1))
}

// TestAsk: the same answers as a query's, without derivations or rounds.
func TestAsk(t *testing.T) {
	w := worldOf(t, askedSteps()...)
	for _, text := range texts("may(X)?", "far(X, Y)?", "far(z, Y)?", "W says good(X)?", "never(X)?", "may(x)?", "bob says friend(X, Y)?") {
		wantLook(t, w, doAsk("ann", text), api.Told{Atoms: w.Do(doQuery("ann", text, 9)).Atoms})
	}
	wantLook(t, w, doAsk("bob", "friend(X, x)?"), toldAtoms("friend(x, x)", "friend(y, x)"))
	// What no model may have is answered where it is asked backwards.
	wantDone(t, w, doAssert("ann", wide))
	wantRefused(t, w, doQuery("ann", "wide(1, 2, 3, 4)?", 9), api.ErrFacts, 0)
	wantLook(t, w, doAsk("ann", "wide(1, 2, 3, 4)?"), toldAtoms("wide(1, 2, 3, 4)"))
	wantRefused(t, w, doAsk("ann", "wide(A, B, C, D)?"), api.ErrCalls, 0)
}

// TestWatches: numbers in turn for each context; what came and went since the last news.
func TestWatches(t *testing.T) {
	w := worldOf(t, askedSteps()...)
	wantTold(t, w, doWatch("ann", "may(X)?"), toldN(1))
	wantTold(t, w, doWatch("ann", "W says good(X)?"), toldN(2))
	wantTold(t, w, doWatch("bob", "good(X)?"), toldN(1))
	for _, n := range ints(3, 0, -1, leastInt, greatestInt) {
		wantRefused(t, w, doNews("ann", n), api.ErrWatch, 0)
	}
	wantRefused(t, w, doNews("bob", 2), api.ErrWatch, 0)
	wantRefused(t, w, doNews("nobody", 1), api.ErrNoContext, 0)
	wantTold(t, w, doNews("ann", 1), done)
	wantDone(t, w, doForget("ann", hexOf(idOf(certificate("s", "bob", "good(x).")))), doAssert("ann", "may(c). may(b)."), doRetract("ann", "may(z)."))
	wantTold(t, w, doNews("ann", 1), toldNews(texts("may(b)", "may(c)"), texts("may(x)", "may(z)")))
	wantTold(t, w, doNews("ann", 1), done)
	wantTold(t, w, doNews("ann", 2), toldNews(nil, texts("bob says good(x)")))
	wantTold(t, w, doNews("bob", 1), done)
	wantDone(t, w, doRetract("bob", "good(x)."), doRetract("ann", "may(b)."), doAssert("ann", "may(b)."))
	wantTold(t, w, doNews("bob", 1), toldNews(nil, texts("good(x)")))
	wantTold(t, w, doNews("ann", 1), done)
	wantTold(t, w, doWatch("ann", "may(X)?"), toldN(3))
}

// TestRefusedNews: leave the mark where it was.
func TestRefusedNews(t *testing.T) {
	w := worldOf(t, askedSteps()...)
	wantDone(t, w, doWatch("ann", "may(X)?"), doAssert("ann", "may(new)."), doAssert("ann", wide))
	wantRefused(t, w, doNews("ann", 1), api.ErrFacts, 0)
	wantDone(t, w, doAssert("ann", numbered("many", 0, 1000)))
	wantRefused(t, w, doNews("ann", 1), api.ErrMany, 0)
	wantDone(t, w, doRetract("ann", wide+numbered("many", 0, 1000)))
	wantTold(t, w, doNews("ann", 1), toldNews(texts("may(new)"), nil))
}

// TestMaxWatches: 64 are given; a refused watch takes no number.
func TestMaxWatches(t *testing.T) {
	w := worldOf(t, askedSteps()...)
	for n := 1; n <= 64; n++ {
		wantRefused(t, w, doWatch("ann", "may(X"), api.ErrSyntax, 5)
		wantTold(t, w, doWatch("ann", "may(X)?"), toldN(n))
	}
	for range 2 {
		wantRefused(t, w, doWatch("ann", "may(X)?"), api.ErrWatch, 0)
		wantRefused(t, w, doNews("ann", 65), api.ErrWatch, 0)
		wantTold(t, w, doNews("ann", 64), done)
	}
	wantTold(t, w, doWatch("bob", "good(X)?"), toldN(1))
}

// TestWhy: the support of the fact out of all of the context's clauses.
func TestWhy(t *testing.T) {
	w := worldOf(t, askedSteps()...)
	wantLook(t, w, doWhy("ann", "may(x)?"), toldClauses("bob says good(x).", "may(X) :- bob says good(X)."))
	wantLook(t, w, doWhy("ann", "far(x, z)?"), toldClauses("far(X, Y) :- may(X), may(Y), X != Y.", "bob says good(x).", "may(z).", "may(X) :- bob says good(X)."))
	wantLook(t, w, doWhy("ann", "bob says good(y)?"), toldClauses("bob says good(y)."))
	for _, text := range texts("may(X)?", "X says good(x)?", "never(_)?") {
		wantRefused(t, w, doWhy("ann", text), api.ErrFact, 0)
	}
	for _, text := range texts("may(q)?", "good(x)?", "ann says may(x)?") {
		wantRefused(t, w, doWhy("ann", text), api.ErrNoFact, 0)
	}
	// An own clause that a certificate says too.
	wantDone(t, w, doAssert("ann", "bob says good(y). one :- bob says good(y). one."))
	wantLook(t, w, doWhy("ann", "bob says good(y)?"), toldClauses("bob says good(y)."))
	wantLook(t, w, doWhy("ann", "one?"), toldClauses("one."))
}

// TestLoss: what would go without what To says, whoever holds it; any principal may be named.
func TestLoss(t *testing.T) {
	w := worldOf(t, askedSteps()...)
	wantLook(t, w, doLoss("ann", "bob"), toldAtoms("far(x, y)", "far(x, z)", "far(y, x)", "far(y, z)", "far(z, x)", "far(z, y)", "bob says good(x)", "bob says good(y)", "may(x)", "may(y)"))
	for _, to := range texts("ann", "nobody", "Bob", "bob ", long(64)) {
		wantLook(t, w, doLoss("ann", to), done)
	}
	for _, to := range texts("", long(65), strings.Repeat("\xff", 65)) {
		wantRefused(t, w, doLoss("ann", to), api.ErrPrincipal, 0)
		wantRefused(t, w, doLoss("nobody", to), api.ErrNoContext, 0)
	}
	wantLook(t, w, doLoss("bob", "bob"), done) // its own clauses nobody says
	wantDone(t, w, doAssert("bob", "bob says q. p :- bob says q."))
	wantLook(t, w, doLoss("bob", "bob"), toldAtoms("p", "bob says q"))
}

// TestClauses: the own ones and the quotes, in order, none twice.
func TestClauses(t *testing.T) {
	w := worldOf(t, askedSteps()...)
	wantDone(t, w, doAssert("ann", "bob says good(x)."))
	wantLook(t, w, doClauses("ann"), toldClauses("far(X, Y) :- may(X), may(Y), X != Y.", "bob says good(x).", "bob says good(y).", "may(z).", "may(X) :- bob says good(X)."))
	wantLook(t, w, doClauses("bob"), toldClauses("friend(X, Y) :- good(X), good(Y).", "good(x).", "good(y)."))
	wantRefused(t, w, doClauses("nobody"), api.ErrNoContext, 0)
}

// TestRedundant: those of all of the context's clauses that the others imply.
func TestRedundant(t *testing.T) {
	w := worldOf(t, askedSteps()...)
	wantLook(t, w, doRedundant("bob"), done)
	wantRefused(t, w, doRedundant("ann"), api.ErrTests, 0)
	wantRefused(t, w, doRedundant("nobody"), api.ErrNoContext, 0)
	wantDone(t, w, doRetract("ann", "far(X, Y) :- may(X), may(Y), X != Y."), doAssert("ann", "may(x). may(x) :- bob says good(x). may(X) :- bob says good(X), may(X). bob says good(y) :- may(z)."))
	wantLook(t, w, doRedundant("ann"), toldClauses("bob says good(y).", "bob says good(y) :- may(z).", "may(x).", "may(x) :- bob says good(x).", "may(X) :- bob says good(X), may(X)."))
	wantDone(t, w, doRetract("ann", "bob says good(y) :- may(z)."))
	wantLook(t, w, doRedundant("ann"), toldClauses("may(x).", "may(x) :- bob says good(x).", "may(X) :- bob says good(X), may(X)."))
}
