package world_test

import (
	"slices"
	"testing"

	"hearsay/api"
	"hearsay/journal"
	"hearsay/world"
)

// P24.3: the journals.

func assertion(text string) api.Record {
	return api.Record{Kind: api.RecAssert, Clause: program(text)[0]}
}

func retraction(text string) api.Record {
	return api.Record{Kind: api.RecRetract, Clause: program(text)[0]}
}

func taking(b string) api.Record { return api.Record{Kind: api.RecTake, Bytes: []byte(b)} }

func forgetting(id api.Digest) api.Record { return api.Record{Kind: api.RecForget, Id: id} }

// wantJournal: the bytes of a new journal of this name with these records.
func wantJournal(t *testing.T, w *world.World, who string, want ...api.Record) {
	t.Helper()
	if got, err := w.Journal(who); err != api.OK || !slices.Equal(got, logOf(who, want).Bytes()) {
		t.Errorf("P24.3: Journal(%q) is %x, %d, want %x", who, got, err, logOf(who, want).Bytes())
	}
}

// TestJournalOfALife: the records of each kind of change, in the order in which they came; none of what is refused, of what changes nothing, or of what others do.
func TestJournalOfALife(t *testing.T) {
	w := worldOf(t, livedSteps()...)
	wantJournal(t, w, "ann", livedRecords()...)
	wantJournal(t, w, "bob", assertion("p(1)."), assertion("p(2)."), assertion("q(X) :- p(X)."), retraction("p(1)."), taking(certificate("s", "ann", "b.")))
	ann, _ := w.Journal("ann")
	for _, d := range steps(
		doAssert("ann", "a. ok(X) :- bob says p(X)."), doAssert("ann", "new. p("), doAssert("ann", "new(X)."), doRetract("ann", "never."), doRetract("ann", ""), doImport("ann", 4), doImport("ann", 77), doForget("ann", "zz"), doForget("ann", hexOf(api.Digest{})),
		doExport("ann", "a.", 0), doExport("ann", "never.", 9), doQuery("ann", "a?", 9), doAsk("ann", "a?"), doWatch("ann", "a?"), doNews("ann", 1), doWhy("ann", "a?"), doLoss("ann", "bob"), doProve("ann", "a?", 9), doShow("ann", 7), doClauses("ann"), doRedundant("ann"),
		doDrop(6), doCopy(7), doSwap(7, 8), doFlip(7, 0, 1), doCut(8, 3), doForge("x"), doWaiting(), doEnroll("cy"), doEnroll("ann"), doCrash("bob", 0), doAssert("bob", "a."), doCrash("ann", greatestInt), api.Do{},
	) {
		w.Do(d)
		if got, _ := w.Journal("ann"); !slices.Equal(got, ann) {
			t.Errorf("P24.3: behind Do(%s) the journal has %d bytes, it had %d", shownDo(d), len(got), len(ann))
		}
	}
}

// TestJournalMakesTheContext: opened and played on the world's ring it makes what the context is, at every moment.
func TestJournalMakesTheContext(t *testing.T) {
	for seed := range int64(20) {
		c := newChosen(5000 + seed)
		x := newTwin(t, "s", beginnings()[1+seed%2]...)
		c.script(x, 80, func(d api.Do, _ api.Told) {
			if x.p.of(d.Who) == nil {
				return
			}
			log, _ := x.w.Journal(d.Who)
			j, n, err := journal.Open(log)
			if err != api.OK || n != len(log) || j.Name() != d.Who {
				t.Fatalf("P24.3: behind Do(%s) %d of the journal's %d bytes are right, %d", shownDo(d), n, len(log), err)
			}
			again, err := j.Again(world.RingOf(x.w))
			own, _ := x.w.Own(d.Who)
			certs, _ := x.w.Certs(d.Who)
			if err != api.OK || !sameClauses(again.Own(), own) || !slices.EqualFunc(again.Certs(), certs, slices.Equal) {
				t.Errorf("P24.3: behind Do(%s) the journal makes another context, %d", shownDo(d), err)
			}
		})
	}
}
