package world_test

import (
	"strings"
	"testing"

	"hearsay/api"
)

// P24.2, T6: the steps of one who rules the wire.

func TestRow(t *testing.T) {
	w := enrolled(t, "ann")
	for i, b := range texts("ab", "", "xyz") {
		wantTold(t, w, doForge(b), toldN(i+1))
	}
	wantTold(t, w, doSwap(1, 3), done)
	wantRow(t, w, "3:xyz", "2:", "1:ab")
	wantTold(t, w, doSwap(2, 2), done)
	wantTold(t, w, doFlip(1, 1, 1), done)
	wantTold(t, w, doFlip(1, 0, 256), done)
	wantRow(t, w, "3:xyz", "2:", "1:ac")
	wantTold(t, w, doFlip(1, 0, -1), done)
	wantRow(t, w, "3:xyz", "2:", "1:\x9ec")
	wantTold(t, w, doFlip(1, 0, 255), done)
	wantTold(t, w, doCopy(3), toldN(4))
	wantTold(t, w, doCut(3, 1), done)
	wantTold(t, w, doCut(2, 0), done)
	wantRow(t, w, "3:x", "2:", "1:ac", "4:xyz")
	wantTold(t, w, doDrop(2), done)
	wantRefused(t, w, doDrop(2), api.ErrNoMessage, 0)
	wantRow(t, w, "3:x", "1:ac", "4:xyz")
	wantTold(t, w, doForge(long(api.MaxMessage)), toldN(5))
	wantRefused(t, w, doForge(long(api.MaxMessage+1)), api.ErrMessageLong, 0)
	wantTold(t, w, doCut(5, api.MaxMessage), done)
	wantTold(t, w, doFlip(5, api.MaxMessage-1, 'a'^'b'), done)
	wantRow(t, w, "3:x", "1:ac", "4:xyz", "5:"+long(api.MaxMessage-1)+"b")
	wantTold(t, w, doDrop(5), done)
	wantTold(t, w, doForge(""), toldN(6))
}

// TestWhatIsNotThere: every step that names a message, with numbers that none has, the first or the second.
func TestWhatIsNotThere(t *testing.T) {
	w := enrolled(t, "ann")
	wantDone(t, w, doForge("abc"), doForge("def"), doDrop(1))
	for _, n := range ints(1, 0, 3, -1, -2, 4096, 4097, 1<<32+2, leastInt, greatestInt) {
		for _, d := range steps(doDrop(n), doCopy(n), doSwap(n, 2), doSwap(2, n), doSwap(n, n), doFlip(n, 0, 1), doFlip(n, -1, 1), doFlip(n, 3, 1), doCut(n, 0), doCut(n, -1), doCut(n, 4), doImport("ann", n), doShow("ann", n)) {
			wantRefused(t, w, d, api.ErrNoMessage, 0)
		}
	}
	for _, m := range ints(-1, 3, leastInt, greatestInt) {
		wantRefused(t, w, doFlip(2, m, 1), api.ErrPlace, 0)
	}
	for _, m := range ints(-1, 4, leastInt, greatestInt) {
		wantRefused(t, w, doCut(2, m), api.ErrPlace, 0)
	}
	wantTold(t, w, doCut(2, 3), done)
	wantRow(t, w, "2:def")
}

// TestAdversary: messages that were spoilt, cut, swapped, copied, mended, forged, and taken twice.
func TestAdversary(t *testing.T) {
	x := newTwin(t, "s", doEnroll("ann"), doEnroll("bob"), doAssert("ann", "key(1). key(2)."), doExport("ann", "key(1).", 0), doExport("ann", "key(2).", 0))
	w := x.w
	one, two := certificate("s", "ann", "key(1)."), certificate("s", "ann", "key(2).")
	all := func(l ...api.Do) {
		t.Helper()
		for _, d := range l {
			x.do(d)
			x.look()
		}
	}
	all(doCopy(1), doFlip(1, 9, 1), doSwap(1, 3), doCut(2, 20))
	wantRow(t, w, "3:"+one, "2:"+two[:20], "1:"+turned(one, 9, 1))
	all(doImport("bob", 1), doImport("bob", 2))
	wantRow(t, w, "3:"+one, "2:"+two[:20], "1:"+turned(one, 9, 1))
	all(doFlip(1, 9, 1), doImport("bob", 1), doImport("bob", 3), doImport("bob", 3))
	wantRow(t, w, "2:"+two[:20])
	wantCerts(t, w, "bob", one)
	wantJournal(t, w, "bob", taking(one))
	// What was cut is whole again when it is forged by hand: a message's bytes are all that counts.
	all(doForge(two), doForge(two+"x"), doForge(two[:len(two)-1]), doForge(certificate("t", "ann", "key(2).")), doForge(certificate("s", "ann", "key(3).")), doForge(certificate("s", "bob", "key(2).")), doForge(certificate("s", "zoe", "key(2).")))
	for n := 5; n <= 10; n++ {
		all(doImport("bob", n))
	}
	wantCerts(t, w, "bob", one)
	all(doImport("bob", 4), doCut(5, len(two)), doImport("bob", 5), doImport("ann", 6))
	wantCerts(t, w, "bob", one, two)
	wantJournal(t, w, "bob", taking(one), taking(two))
	wantTold(t, w, doWaiting(), toldNums(2, 6, 7, 8, 9, 10))
	wantJournal(t, w, "ann", assertion("key(1)."), assertion("key(2)."))
}

// TestForgedLater: a certificate that was forged ahead of its export is taken behind it, as then its pair is signed; and what was exported is taken though its signer retracts, or its context is lost.
func TestForgedLater(t *testing.T) {
	b := certificate("s", "ann", "p(1).")
	w := worldOf(t, doEnroll("ann"), doEnroll("bob"), doForge(b))
	wantRefused(t, w, doImport("bob", 1), api.ErrSeal, 0)
	wantDone(t, w, doAssert("ann", "p(1)."))
	wantRefused(t, w, doImport("bob", 1), api.ErrSeal, 0)
	wantTold(t, w, doExport("ann", "p(1).", 0), sent(2, idOf(b)))
	wantDone(t, w, doRetract("ann", "p(1)."), doCrash("ann", 0))
	wantTold(t, w, doImport("bob", 1), sent(1, idOf(b)))
	wantTold(t, w, doImport("bob", 2), sent(0, idOf(b)))
	wantLook(t, w, doClauses("ann"), done)
	wantLook(t, w, doClauses("bob"), toldClauses("ann says p(1)."))
}

// TestAnyBytes: a message may have any bytes; what isn't a certificate, or a bundle, is told so.
func TestAnyBytes(t *testing.T) {
	w := enrolled(t, "ann")
	for i, b := range texts("", "\x00", "HSC1", "HSB1", "HSJ1\x03ann", "\xff\xfe", strings.Repeat("HSC1", 100), "é", "enroll bob") {
		wantTold(t, w, doForge(b), toldN(i+1))
		wantStill(t, "a message that is nothing", w, func() {
			for _, d := range steps(doImport("ann", i+1), doShow("ann", i+1)) {
				if told := w.Do(d); told.Err == api.OK || !sameTold(told, refused(told.Err)) {
					t.Errorf("P24.2: of %q: %s", b, shownTold(told))
				}
			}
		})
	}
}
