package world_test

import (
	"fmt"
	"strings"
	"testing"

	"hearsay/api"
	"hearsay/bundle"
	"hearsay/world"
)

// P24.2: DoProve and DoShow.

// provingSteps: bob holds a rule and has what ann and cy say; dan holds the rule alone; eve nothing.
func provingSteps() []api.Do {
	return steps(
		doEnroll("ann"), doEnroll("bob"), doEnroll("cy"), doEnroll("dan"), doEnroll("eve"),
		doAssert("ann", "good(x). good(y)."), doAssert("cy", "fine(y)."), doExport("ann", "good(x).", 0), doExport("ann", "good(y).", 0), doExport("cy", "fine(y).", 0),
		doAssert("bob", "may(X) :- ann says good(X). two(X) :- may(X), cy says fine(X). p(a)."), doImport("bob", 1), doImport("bob", 2), doImport("bob", 3),
		doAssert("dan", "may(X) :- ann says good(X)."),
	)
}

// wantProve: the message's number, and a bundle in it with just these certificates.
func wantProve(t *testing.T, w *world.World, who, text string, fuel, n int, certs ...string) {
	t.Helper()
	wantTold(t, w, doProve(who, text, fuel), toldN(n))
	goal, got, _, err := bundle.Read([]byte(bytesOf(t, w, n)))
	if err != api.OK || !sameAtom(goal, atoms(strings.TrimSuffix(text, "?"))[0]) || fmt.Sprintf("%q", got) != fmt.Sprintf("%q", certs) {
		t.Errorf("P24.2: message %d is a bundle for %v with %x, %d, want %x", n, goal, got, err, certs)
	}
}

// TestProve: the own clauses are the policy, the certificates what is added; nothing is signed, no clause changes.
func TestProve(t *testing.T) {
	w := worldOf(t, provingSteps()...)
	x, y, fine := certificate("s", "ann", "good(x)."), certificate("s", "ann", "good(y)."), certificate("s", "cy", "fine(y).")
	ring, clauses := signed(w), fmt.Sprint(clausesOf(w))
	wantProve(t, w, "bob", "may(x)?", 4, 4, x)
	wantProve(t, w, "bob", "may(y)?", 9, 5, y)
	wantProve(t, w, "bob", "two(y)?", 4, 6, fine, y)
	wantProve(t, w, "bob", "p(a)?", 4, 7)
	wantProve(t, w, "bob", "cy says fine(y)?", greatestInt, 8, fine)
	for _, fuel := range ints(3, 2, 1, 0, -1, leastInt) {
		wantRefused(t, w, doProve("bob", "may(x)?", fuel), api.ErrFuel, 0)
		wantRefused(t, w, doProve("bob", "never?", fuel), api.ErrFuel, 0)
		wantRefused(t, w, doProve("bob", "may(X)?", fuel), api.ErrFact, 0)
	}
	wantRefused(t, w, doProve("bob", "may(z)?", 4), api.ErrNoFact, 0)
	wantRefused(t, w, doProve("dan", "may(x)?", 9), api.ErrNoFact, 0)
	wantRefused(t, w, doProve("nobody", "may(X", 9), api.ErrNoContext, 0)
	// A clause that is an own one and a certificate's quote needs no certificate.
	wantDone(t, w, doAssert("bob", "ann says good(x)."))
	wantProve(t, w, "bob", "may(x)?", 4, 9)
	wantDone(t, w, doRetract("bob", "ann says good(x)."))
	if signed(w) != ring || fmt.Sprint(clausesOf(w)) != clauses {
		t.Error("P24.6: proofs sign, or change clauses")
	}
	wantTold(t, w, doForge(""), toldN(10))
}

// TestShow: the fact that the message proves to one, with all of one's clauses as the policy; the message stays.
func TestShow(t *testing.T) {
	w := worldOf(t, provingSteps()...)
	wantDone(t, w, doProve("bob", "may(x)?", 4), doProve("bob", "two(y)?", 4), doProve("bob", "p(a)?", 4), doExport("ann", "good(x).", 0))
	for range 2 {
		wantLook(t, w, doShow("dan", 4), toldAtoms("may(x)"))
		wantLook(t, w, doShow("bob", 5), toldAtoms("two(y)"))
		wantLook(t, w, doShow("bob", 6), toldAtoms("p(a)"))
	}
	wantRefused(t, w, doShow("dan", 5), api.ErrForeign, 0)
	wantRefused(t, w, doShow("dan", 6), api.ErrForeign, 0)
	wantRefused(t, w, doShow("eve", 4), api.ErrForeign, 0)
	wantRefused(t, w, doShow("ann", 4), api.ErrForeign, 0)
	wantRefused(t, w, doShow("dan", 7), api.ErrBundle, 0)
	for _, n := range ints(0, 1, 2, 3, 8, -1, leastInt, greatestInt) {
		wantRefused(t, w, doShow("dan", n), api.ErrNoMessage, 0)
		wantRefused(t, w, doShow("nobody", n), api.ErrNoContext, 0)
	}
	// The policy is all of one's clauses, the quotes too: dan's copy of bob's rule comes as a quote.
	wantDone(t, w, doExport("bob", "p(a).", 0), doImport("dan", 8), doProve("dan", "bob says p(a)?", 9))
	wantRefused(t, w, doShow("eve", 4), api.ErrForeign, 0)
	wantLook(t, w, doShow("eve", 9), toldAtoms("bob says p(a)")) // its certificate is in the bundle
	wantDone(t, w, doForget("dan", hexOf(idOf(certificate("s", "bob", "p(a).")))), doRetract("dan", "may(X) :- ann says good(X)."))
	wantRefused(t, w, doShow("dan", 4), api.ErrForeign, 0)
}

// TestQuotesAreAPolicy: what one holds by a certificate serves a bundle that hasn't this certificate.
func TestQuotesAreAPolicy(t *testing.T) {
	w := worldOf(t, doEnroll("ann"), doEnroll("bob"), doEnroll("cy"), doAssert("bob", "ann says p(1). q(X) :- ann says p(X)."), doAssert("ann", "p(1). r(1)."), doExport("ann", "p(1).", 0))
	wantDone(t, w, doProve("bob", "ann says p(1)?", 9)) // of bob's own clause: the bundle has no certificate
	wantRefused(t, w, doShow("cy", 2), api.ErrForeign, 0)
	wantDone(t, w, doImport("cy", 1))
	wantLook(t, w, doShow("cy", 2), toldAtoms("ann says p(1)"))
	wantDone(t, w, doForget("cy", hexOf(idOf(certificate("s", "ann", "p(1).")))))
	wantRefused(t, w, doShow("cy", 2), api.ErrForeign, 0)
}

// TestSpoiltBundles: of which one byte is changed, or that are cut, prove nothing else than they did; mended they are as they were.
func TestSpoiltBundles(t *testing.T) {
	w := worldOf(t, provingSteps()...)
	wantDone(t, w, doProve("bob", "may(x)?", 4))
	b := bytesOf(t, w, 4)
	for place := range len(b) {
		wantDone(t, w, doFlip(4, place, 1))
		if told := w.Do(doShow("dan", 4)); told.Err == api.OK || !sameTold(told, refused(told.Err)) {
			t.Errorf("T10: with byte %d changed the bundle shows %s", place, shownTold(told))
		}
		wantDone(t, w, doFlip(4, place, 1))
	}
	wantLook(t, w, doShow("dan", 4), toldAtoms("may(x)"))
	wantRefused(t, w, doImport("dan", 4), api.ErrMagic, 0)
	for length := range len(b) {
		copied := w.Do(doCopy(4))
		wantDone(t, w, doCut(copied.N, length))
		wantRefused(t, w, doShow("dan", copied.N), api.ErrBundle, 0)
		wantDone(t, w, doDrop(copied.N))
	}
}

// longRule: the text of name(n) :- eight atoms of name(n - 1), each of arguments as long as can be.
func longRule(n int) string {
	args := "(" + strings.TrimSuffix(strings.Repeat(long(64)+",", 8), ",") + ")"
	if n == 0 {
		return "p0" + args + "."
	}
	below := fmt.Sprint("p", n-1, args)
	return fmt.Sprint("p", n, args, " :- ", below, strings.Repeat(", "+below, 7), ".\n")
}

// TestLongBundle: above MaxBundle: ErrBundleLong; the greatest that is below it is sent.
func TestLongBundle(t *testing.T) {
	w := enrolled(t, "ann")
	var s strings.Builder
	for n := range 260 {
		s.WriteString(longRule(n))
		if n == 130 || n == 259 {
			wantDone(t, w, doAssert("ann", s.String()))
			s.Reset()
		}
	}
	args := strings.TrimSuffix(longRule(0)[2:], ".")
	wantRefused(t, w, doProve("ann", "p259"+args+"?", 300), api.ErrBundleLong, 0)
	wantTold(t, w, doProve("ann", "p150"+args+"?", 300), toldN(1))
	wantLook(t, w, doShow("ann", 1), toldAtoms("p150"+args))
}
