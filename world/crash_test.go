package world_test

import (
	"fmt"
	"testing"

	"hearsay/api"
	"hearsay/world"
)

// P24.4: DoCrash.

// livedSteps: ann has a history with records of every kind, and watches; bob has some too.
func livedSteps() []api.Do {
	return steps(
		doEnroll("ann"), doEnroll("bob"), doAssert("bob", "p(1). p(2). q(X) :- p(X)."), doExport("bob", "p(1).", 0), doExport("bob", "p(2).", 0), doCopy(1), doCopy(2),
		doAssert("ann", "ok(X) :- bob says p(X). z."), doWatch("ann", "ok(X)?"), doImport("ann", 1), doRetract("ann", "z."), doImport("ann", 2), doForget("ann", hexOf(idOf(certificate("s", "bob", "p(1).")))),
		doAssert("ann", "a. b :- a."), doWatch("ann", "b?"), doExport("ann", "b.", 4), doWatch("bob", "p(X)?"), doRetract("bob", "p(1)."), doImport("ann", 3), doImport("bob", 5),
	)
}

// livedRecords: of ann.
func livedRecords() []api.Record {
	one, two := certificate("s", "bob", "p(1)."), certificate("s", "bob", "p(2).")
	return []api.Record{
		assertion("ok(X) :- bob says p(X)."), assertion("z."), taking(one), retraction("z."), taking(two), forgetting(idOf(one)), assertion("a."), assertion("b :- a."), taking(one),
	}
}

// wantCrash: ann's journal cut to m bytes: how many records are left, what the context is, that there are no watches; everything else is as it was, and it goes on.
func wantCrash(t *testing.T, m int) {
	t.Helper()
	x := newTwin(t, "s", livedSteps()...)
	ring, row, bob := signed(x.w), fmt.Sprint(x.w.Waiting()), lookOf(x.w, "bob")
	left, all := 0, ends("ann", livedRecords())
	for n, end := range all {
		if end <= m {
			left = n
		}
	}
	if told := x.do(doCrash("ann", m)); !sameTold(told, toldN(left)) {
		t.Errorf("P24.4: a crash at %d of %d bytes is %s, want %d records", m, all[len(all)-1], shownTold(told), left)
	}
	x.look()
	wantJournal(t, x.w, "ann", livedRecords()[:left]...)
	if signed(x.w) != ring || fmt.Sprint(x.w.Waiting()) != row || lookOf(x.w, "bob") != bob {
		t.Errorf("P24.4: a crash at %d bytes of ann's journal changes something else", m)
	}
	for _, n := range ints(0, 1, 2, 3) {
		wantTold(t, x.w, doNews("ann", n), refused(api.ErrWatch))
	}
	wantTold(t, x.w, doNews("bob", 1), toldNews(nil, texts("p(1)")))
	for n := 1; n <= 2; n++ {
		if told := x.do(doWatch("ann", "ok(X)?")); told.N != n {
			t.Errorf("P24.4: behind a crash at %d bytes the watch is %s", m, shownTold(told))
		}
	}
	for _, d := range steps(doImport("ann", 4), doAssert("ann", "z. c. ok(9)."), doNews("ann", 1), doQuery("ann", "ok(X)?", 9), doExport("ann", "c.", 0), doRetract("ann", "c."), doForget("ann", hexOf(idOf(certificate("s", "bob", "p(1)."))))) {
		x.do(d)
	}
	x.look()
}

// lookOf: all that looks show of one context.
func lookOf(w *world.World, who string) string {
	own, _ := w.Own(who)
	certs, _ := w.Certs(who)
	log, _ := w.Journal(who)
	return fmt.Sprintf("%v %x %x %v", own, certs, log, w.Do(doClauses(who)))
}

// TestCrashAtEveryByte: of the journal; at its ends and beyond them.
func TestCrashAtEveryByte(t *testing.T) {
	w := worldOf(t, livedSteps()...)
	wantJournal(t, w, "ann", livedRecords()...)
	log, _ := w.Journal("ann")
	places := ints(leastInt, leastInt+1, -1<<32, -len(log), -2, -1, len(log)+1, len(log)+2, 2*len(log), 1000000, 1<<32, greatestInt-1, greatestInt)
	for m := range len(log) + 1 {
		places = append(places, m)
	}
	for part := range 8 {
		t.Run(fmt.Sprint("part ", part), func(t *testing.T) {
			t.Parallel()
			for i := part; i < len(places); i += 8 {
				wantCrash(t, places[i])
			}
		})
	}
}

// TestCrashLosesWatchesAlone: at the journal's length and above, whatever was done: all that looks show is as it was.
func TestCrashLosesWatchesAlone(t *testing.T) {
	for _, who := range texts("ann", "bob", "cy", "dan") {
		for more := range 3 {
			w := worldOf(t, richSteps()...)
			log, _ := w.Journal(who)
			m := len(log) + more
			wantStill(t, "a crash that cuts nothing", w, func() { wantTold(t, w, doCrash(who, m), toldN(recordsOf(t, log))) })
			wantTold(t, w, doNews(who, 1), refused(api.ErrWatch))
			wantTold(t, w, doWatch(who, "p(X)?"), toldN(1))
			for _, other := range texts("bob", "cy") {
				if other != who {
					wantDone(t, w, doNews(other, 1))
				}
			}
		}
	}
}

// recordsOf: how many records a journal's bytes have, told by their lengths.
func recordsOf(t *testing.T, log []byte) int {
	t.Helper()
	n, at := 0, 5+int(log[4])+32
	for at < len(log) {
		size := int(log[at])<<24 | int(log[at+1])<<16 | int(log[at+2])<<8 | int(log[at+3])
		at += 4 + size + 32
		n++
	}
	if at != len(log) {
		t.Errorf("P24.3: a journal of %d bytes has a record that ends at %d", len(log), at)
	}
	return n
}

// TestCrashAgainAndAgain: shorter each time, with steps between.
func TestCrashAgainAndAgain(t *testing.T) {
	x := newTwin(t, "s", livedSteps()...)
	for round := range 40 {
		log, _ := x.w.Journal("ann")
		x.do(doCrash("ann", len(log)-30))
		x.look()
		if round%3 == 0 {
			x.do(doAssert("ann", fmt.Sprintf("new(%d). ok(Y) :- ann says p(Y).", round)))
		}
		x.do(doWatch("ann", "ok(X)?"))
		x.look()
	}
	for _, d := range steps(doCrash("ann", 0), doCrash("ann", 0), doCrash("ann", greatestInt), doCrash("nobody", 0), doCrash("", greatestInt), doCrash("bob", 50)) {
		x.do(d)
		x.look()
	}
	wantRefused(t, x.w, doCrash("nobody", 5), api.ErrNoContext, 0)
	wantJournal(t, x.w, "ann")
}

// TestWatchesBehindACrash: 64 are given anew.
func TestWatchesBehindACrash(t *testing.T) {
	w := worldOf(t, livedSteps()...)
	for range 2 {
		wantTold(t, w, doCrash("ann", greatestInt), toldN(len(livedRecords())))
		for n := 1; n <= api.MaxWatches; n++ {
			wantTold(t, w, doWatch("ann", "ok(X)?"), toldN(n))
		}
		wantRefused(t, w, doWatch("ann", "ok(X)?"), api.ErrWatch, 0)
	}
}

// TestCertificatesBehindACrash: what was signed stays signed: a certificate whose taking was lost is taken again, and one of the lost context's own too.
func TestCertificatesBehindACrash(t *testing.T) {
	w := worldOf(t, livedSteps()...)
	wantTold(t, w, doCrash("bob", 0), toldN(0))
	wantTold(t, w, doImport("ann", 4), sent(0, idOf(certificate("s", "bob", "p(2)."))))
	wantTold(t, w, doCrash("ann", 0), toldN(0))
	wantTold(t, w, doForge(certificate("s", "bob", "p(2).")), toldN(6))
	wantTold(t, w, doImport("ann", 6), sent(1, idOf(certificate("s", "bob", "p(2)."))))
	wantTold(t, w, doForge(certificate("s", "ann", "b.")), toldN(7))
	wantTold(t, w, doImport("bob", 7), sent(1, idOf(certificate("s", "ann", "b."))))
	wantRefused(t, w, doExport("bob", "p(2).", 9), api.ErrNotHeld, 0)
}
