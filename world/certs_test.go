package world_test

import (
	"strings"
	"testing"

	"hearsay/api"
	"hearsay/world"
)

// P24.2, P24.6: DoExport, DoImport, DoForget.

// TestExport: the certificate is sent; its number and its id are told; it is signed, and nothing else is.
func TestExport(t *testing.T) {
	w := enrolled(t, "ann", "bob")
	wantDone(t, w, doAssert("ann", "good(x). ok(X) :- good(X). bob says p(1)."))
	wantDone(t, w, doForge("first"))
	for i, text := range texts("good(x).", "ok(X) :- good(X).", "ok(x).", "good(x).", "ok(Y) :- good(Y).") {
		want := certificate("s", "ann", text)
		wantTold(t, w, doExport("ann", text, 3), sent(2+i, idOf(want)))
		if got := bytesOf(t, w, 2+i); got != want {
			t.Errorf("P24.2: message %d has the bytes %x, want %x", 2+i, got, want)
		}
	}
	r := world.RingOf(w)
	if len(r.Signed("ann")) != 3 || len(r.Signed("bob")) != 0 {
		t.Errorf("P24.6: signed are %x and %x", r.Signed("ann"), r.Signed("bob"))
	}
	wantJournal(t, w, "ann", assertion("good(x)."), assertion("ok(X) :- good(X)."), assertion("bob says p(1)."))
	wantRefused(t, w, doExport("ann", "bob says p(1).", 3), api.ErrQualified, 0)
	wantRefused(t, w, doExport("ann", "ok(y).", 3), api.ErrNotHeld, 0)
	wantRefused(t, w, doExport("ann", "ok(x)", 3), api.ErrSyntax, 5)
	wantRefused(t, w, doExport("bob", "good(x).", 3), api.ErrNotHeld, 0)
	wantTold(t, w, doForge(""), toldN(7)) // a refused export gave no number away
}

// TestExportFuel: just enough, and one less; an own clause wants none.
func TestExportFuel(t *testing.T) {
	w := enrolled(t, "ann")
	wantDone(t, w, doAssert("ann", "p(0). p(1) :- p(0). p(2) :- p(1). p(3) :- p(2)."))
	sentSoFar := 0
	for _, fuel := range ints(leastInt, -1, 0, 1, 4, 5, 6, greatestInt) {
		sentSoFar++
		wantTold(t, w, doExport("ann", "p(0).", fuel), sent(sentSoFar, idOf(certificate("s", "ann", "p(0)."))))
		if fuel < 5 {
			wantRefused(t, w, doExport("ann", "p(1).", fuel), api.ErrFuel, 0)
			continue
		}
		sentSoFar++
		wantTold(t, w, doExport("ann", "p(3).", fuel), sent(sentSoFar, idOf(certificate("s", "ann", "p(3)."))))
	}
}

// TestNothingSigned: a certificate that a refused export would have sealed isn't taken, though its seal be right.
func TestNothingSigned(t *testing.T) {
	for _, d := range steps(doExport("ann", "may(x).", 2), doExport("ann", "never(x).", 9), doExport("nobody", "may(x).", 9), doExport("ann", "may(x)", 9), doProve("ann", "may(x)?", 9), doQuery("ann", "may(X)?", 9)) {
		w := worldOf(t, doEnroll("ann"), doEnroll("bob"), doAssert("ann", "may(X) :- good(X). good(x)."))
		w.Do(d)
		for _, text := range texts("may(x).", "never(x).") {
			forged := w.Do(doForge(certificate("s", "ann", text)))
			wantRefused(t, w, doImport("bob", forged.N), api.ErrSeal, 0)
		}
	}
}

// TestFullWireSignsNothing: an export on a full wire leaves the pair unsigned: the same bytes that came from elsewhere are refused.
func TestFullWireSignsNothing(t *testing.T) {
	w := worldOf(t, doEnroll("ann"), doEnroll("bob"), doAssert("ann", "good(x). bad(X) :- good(X)."), doForge(certificate("s", "ann", "good(x).")), doForge(certificate("s", "ann", "bad(x).")))
	fillWire(t, w)
	for _, text := range texts("good(x).", "bad(x).", "never.", "p(") {
		wantRefused(t, w, doExport("ann", text, 9), api.ErrWireFull, 0)
	}
	wantRefused(t, w, doExport("nobody", "good(x).", 9), api.ErrNoContext, 0)
	wantRefused(t, w, doImport("bob", 1), api.ErrSeal, 0)
	wantRefused(t, w, doImport("bob", 2), api.ErrSeal, 0)
}

// TestLastNumbers: the 4096th number is given by an export, a proof, a copy or a forgery; then none is.
func TestLastNumbers(t *testing.T) {
	for _, last := range steps(doExport("ann", "good(x).", 0), doProve("ann", "good(x)?", 2), doCopy(1), doForge("last")) {
		w := worldOf(t, doEnroll("ann"), doAssert("ann", "good(x)."), doForge("first"))
		for n := 2; n <= 4095; n++ {
			wantTold(t, w, doForge(""), toldN(n))
			wantDone(t, w, doDrop(n))
		}
		wantRefused(t, w, doExport("ann", "never.", 9), api.ErrNotHeld, 0)
		wantRefused(t, w, doProve("ann", "never?", 9), api.ErrNoFact, 0)
		wantRefused(t, w, doForge(long(api.MaxMessage+1)), api.ErrMessageLong, 0)
		if told := w.Do(last); told.Err != api.OK || told.N != 4096 {
			t.Errorf("P24.2: Do(%s) is %s", shownDo(last), shownTold(told))
		}
		for again := range 2 {
			for _, d := range steps(doExport("ann", "good(x).", 0), doProve("ann", "good(x)?", 2), doCopy(1), doForge("last")) {
				wantRefused(t, w, d, api.ErrWireFull, 0)
			}
			wantRefused(t, w, doCopy(2), api.ErrNoMessage, 0)
			wantRefused(t, w, doForge(long(api.MaxMessage+1)), api.ErrMessageLong, 0)
			if again == 0 {
				wantDone(t, w, doDrop(4096)) // room on the wire gives no number back
			}
		}
	}
}

// TestImport: the message goes; the certificate is taken, with a record, if it wasn't yet; its id is told either way.
func TestImport(t *testing.T) {
	w := enrolled(t, "ann", "bob", "cy")
	a, b := certificate("s", "ann", "p(1)."), certificate("s", "ann", "q(X) :- p(X).")
	wantDone(t, w, doAssert("ann", "p(1). q(X) :- p(X)."), doExport("ann", "p(1).", 0), doExport("ann", "q(X) :- p(X).", 0), doCopy(1), doCopy(2), doCopy(1))
	wantTold(t, w, doImport("bob", 4), sent(1, idOf(b)))
	wantTold(t, w, doImport("bob", 1), sent(1, idOf(a)))
	wantTold(t, w, doImport("bob", 3), sent(0, idOf(a)))
	wantRow(t, w, "2:"+b, "5:"+a)
	wantJournal(t, w, "bob", taking(b), taking(a))
	wantCerts(t, w, "bob", a, b)
	for _, n := range ints(4, 1, 3, 0, -1, 6, leastInt, greatestInt) {
		wantRefused(t, w, doImport("bob", n), api.ErrNoMessage, 0)
		wantRefused(t, w, doImport("nobody", n), api.ErrNoContext, 0)
	}
	wantTold(t, w, doImport("ann", 5), sent(1, idOf(a))) // one's own too
	wantLook(t, w, doClauses("ann"), toldClauses("p(1). ann says p(1). q(X) :- p(X)."))
	wantLook(t, w, doClauses("bob"), toldClauses("ann says p(1). ann says q(X) :- ann says p(X)."))
	wantTold(t, w, doImport("bob", 2), sent(0, idOf(b)))
	wantRow(t, w)
	wantJournal(t, w, "cy")
}

// TestForget: those with the id go, with a record; texts that are no digest's are told so ahead.
func TestForget(t *testing.T) {
	w := enrolled(t, "ann", "bob")
	a, b := certificate("s", "ann", "p(1)."), certificate("s", "ann", "p(2).")
	wantDone(t, w, doAssert("ann", "p(1). p(2)."), doExport("ann", "p(1).", 0), doExport("ann", "p(2).", 0), doCopy(1), doImport("bob", 1), doImport("bob", 2))
	for _, text := range append(noDigests(), strings.ToUpper(hexOf(idOf(a))), hexOf(idOf(a))+"\n", "p(1).", hexOf(idOf(a))[:32]) {
		wantRefused(t, w, doForget("bob", text), api.ErrHex, 0)
		wantRefused(t, w, doForget("nobody", text), api.ErrNoContext, 0)
	}
	wantRefused(t, w, doForget("bob", hexOf(api.Digest{})), api.ErrNoCert, 0)
	wantRefused(t, w, doForget("ann", hexOf(idOf(a))), api.ErrNoCert, 0)
	wantTold(t, w, doForget("bob", hexOf(idOf(a))), done)
	wantJournal(t, w, "bob", taking(a), taking(b), forgetting(idOf(a)))
	wantRefused(t, w, doForget("bob", hexOf(idOf(a))), api.ErrNoCert, 0)
	wantCerts(t, w, "bob", b)
	wantTold(t, w, doImport("bob", 3), sent(1, idOf(a)))
	wantJournal(t, w, "bob", taking(a), taking(b), forgetting(idOf(a)), taking(a))
	wantTold(t, w, doForget("bob", hexOf(idOf(b))), done)
	wantTold(t, w, doForget("bob", hexOf(idOf(a))), done)
	wantCerts(t, w, "bob")
	wantLook(t, w, doClauses("bob"), done)
}

// TestEveryBitTurned: a certificate of which one bit is turned is refused and stays on the wire; mended it is taken.
func TestEveryBitTurned(t *testing.T) {
	w := worldOf(t, doEnroll("ann"), doEnroll("bob"), doAssert("ann", "p(1)."), doExport("ann", "p(1).", 0))
	good := certificate("s", "ann", "p(1).")
	for bit := range 8 * len(good) {
		wantTold(t, w, doFlip(1, bit/8, 1<<(bit%8)), done)
		if told := w.Do(doImport("bob", 1)); told.Err == api.OK || !sameTold(told, refused(told.Err)) {
			t.Errorf("T6: with bit %d turned: %s", bit, shownTold(told))
		}
		if got := bytesOf(t, w, 1); got != turned(good, bit/8, 1<<(bit%8)) {
			t.Errorf("P24.2: behind a refused import the message is %x", got)
		}
		wantTold(t, w, doFlip(1, bit/8, 1<<(bit%8)), done)
	}
	wantTold(t, w, doImport("bob", 1), sent(1, idOf(good)))
	wantJournal(t, w, "bob", taking(good))
}
