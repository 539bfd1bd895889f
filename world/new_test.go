package world_test

import (
	"strings"
	"testing"

	"hearsay/api"
	"hearsay/world"
)

// P24.1: New, Names, Own, Certs, Journal, Waiting.

func secrets() []string {
	return texts("", "s", "t", "\x00", long(64), long(65), strings.Repeat("\xff", 1000))
}

// TestNew: no principal, no message; and the first numbers.
func TestNew(t *testing.T) {
	for _, secret := range secrets() {
		x := newTwin(t, secret)
		x.look()
		if l := x.w.Names(); len(l) != 0 {
			t.Errorf("P24.1: a new world has the names %q", l)
		}
		wantRow(t, x.w)
		for _, name := range texts("", "ann", long(64), long(65)) {
			wantNobody(t, x.w, name)
			wantRefused(t, x.w, doClauses(name), api.ErrNoContext, 0)
		}
		for _, n := range ints(-1, 0, 1, 2, leastInt, greatestInt) {
			wantRefused(t, x.w, doDrop(n), api.ErrNoMessage, 0)
		}
		for n := 1; n <= 3; n++ {
			wantTold(t, x.w, doForge("x"), toldN(n))
		}
		wantDone(t, x.w, doEnroll("ann"))
		for n := 1; n <= 3; n++ {
			wantTold(t, x.w, doWatch("ann", "p(X)?"), toldN(n))
		}
	}
	if w := world.New(nil); len(w.Names()) != 0 || len(w.Waiting()) != 0 {
		t.Error("P24.1: a new world of no bytes isn't empty")
	}
}

// wantNobody: no context has this name.
func wantNobody(t *testing.T, w *world.World, name string) {
	t.Helper()
	if l, err := w.Own(name); len(l) != 0 || err != api.ErrNoContext {
		t.Errorf("P24.1: Own(%q) is %v, %d", name, l, err)
	}
	if l, err := w.Certs(name); len(l) != 0 || err != api.ErrNoContext {
		t.Errorf("P24.1: Certs(%q) is %x, %d", name, l, err)
	}
	if b, err := w.Journal(name); len(b) != 0 || err != api.ErrNoContext {
		t.Errorf("P24.1: Journal(%q) is %x, %d", name, b, err)
	}
}

// TestSecrets: keys come out of the secret: with the same one certificates have the same bytes, with another one other seals.
func TestSecrets(t *testing.T) {
	ids := map[api.Digest]string{}
	for _, secret := range secrets() {
		for range 2 {
			w := world.New([]byte(secret))
			wantDone(t, w, doEnroll("ann"), doAssert("ann", "p(a)."))
			want := certificate(secret, "ann", "p(a).")
			wantTold(t, w, doExport("ann", "p(a).", 0), sent(1, idOf(want)))
			wantRow(t, w, "1:"+want)
			ids[idOf(want)] = secret
		}
	}
	// The keyed digest takes zeros behind a short secret for nothing, so the empty one and the one of a zero are one.
	if len(ids) != len(secrets())-1 {
		t.Errorf("P24.1: %d worlds have %d ids", len(secrets()), len(ids))
	}
}

// TestTwoWorlds: have nothing to do with one another, whether the secret is the same or not: contexts, numbers, watches and what is signed.
func TestTwoWorlds(t *testing.T) {
	for _, secret := range texts("s", "t") {
		w, other := world.New([]byte("s")), world.New([]byte(secret))
		wantDone(t, w, doEnroll("ann"), doEnroll("bob"), doAssert("ann", "p(a)."), doWatch("ann", "p(X)?"))
		empty := seen(other)
		wantDone(t, w, doExport("ann", "p(a).", 0), doCopy(1), doImport("bob", 1), doExport("ann", "p(a).", 0))
		if seen(other) != empty {
			t.Errorf("P24.1: what is done in one world is seen in another: %s", unlike(empty, seen(other)))
		}
		before := seen(w)
		b := bytesOf(t, w, 3)
		wantTold(t, other, doEnroll("ann"), done)
		wantTold(t, other, doEnroll("bob"), done)
		wantTold(t, other, doWatch("ann", "p(X)?"), toldN(1))
		wantTold(t, other, doForge(b), toldN(1))
		wantRefused(t, other, doImport("bob", 1), api.ErrSeal, 0)
		wantTold(t, other, doAssert("ann", "p(a)."), toldN(1))
		wantRefused(t, other, doImport("bob", 1), api.ErrSeal, 0)
		wantTold(t, other, doExport("ann", "p(a).", 0), sent(2, idOf(certificate(secret, "ann", "p(a)."))))
		if secret == "s" { // the very bytes that were signed here too, by now
			wantTold(t, other, doImport("bob", 1), sent(1, idOf(b)))
		} else {
			wantRefused(t, other, doImport("bob", 1), api.ErrSeal, 0)
		}
		if seen(w) != before {
			t.Errorf("P24.1: what is done in another world is seen: %s", unlike(before, seen(w)))
		}
	}
}

// namesInOrder: principals in rising order of their bytes.
func namesInOrder() []string {
	return texts("\x00", "\x00\x00", "\n", " ", "\"", "7", "A", "Z", "_", "a", "a\x00", "a ", "aA", "aa", long(63), long(64), "ann", "annn", "b", "says", "z", "\x7f", "\x80", "é", "\xc3\xa9\x00", "\xf0", "\xff", strings.Repeat("\xff", 64))
}

// TestNames: in rising order of their bytes, in whatever order they came.
func TestNames(t *testing.T) {
	names := namesInOrder()
	for seed := range int64(20) {
		c := newChosen(seed)
		w := world.New([]byte("s"))
		there := make([]bool, len(names))
		for _, i := range c.Perm(len(names)) {
			wantTold(t, w, doEnroll(names[i]), done)
			there[i] = true
			var want []string
			for k, name := range names {
				if there[k] {
					want = append(want, name)
				}
			}
			if got := w.Names(); strings.Join(got, "|") != strings.Join(want, "|") {
				t.Fatalf("P24.1: Names is %q, want %q", got, want)
			}
		}
	}
}

// TestLooks: of a name that has a context what its context and its journal answer; of one that hasn't ErrNoContext.
func TestLooks(t *testing.T) {
	w := enrolled(t, "ann", "bob")
	for _, who := range texts("ann", "bob") {
		wantOwn(t, w, who)
		wantCerts(t, w, who)
		wantJournal(t, w, who)
	}
	wantDone(t, w, doAssert("ann", "q. p(b). p(a)."), doExport("ann", "p(a).", 0), doExport("ann", "p(b).", 0), doImport("bob", 2), doImport("bob", 1))
	a, b := certificate("s", "ann", "p(a)."), certificate("s", "ann", "p(b).")
	wantOwn(t, w, "ann", "p(a).", "p(b).", "q.")
	wantCerts(t, w, "ann")
	wantOwn(t, w, "bob")
	wantCerts(t, w, "bob", a, b)
	wantJournal(t, w, "bob", taking(b), taking(a))
	wantDone(t, w, doForget("bob", hexOf(idOf(b))), doRetract("ann", "q. p(a)."))
	wantOwn(t, w, "ann", "p(b).")
	wantCerts(t, w, "bob", a)
	for _, name := range texts("", "an", "annn", "Ann", "ann\x00", "carl", long(64), long(65), long(100000)) {
		wantNobody(t, w, name)
	}
}

// TestLooksChangeNothing: looks between all steps: what is told, and what is seen in the end, is the same as without them.
func TestLooksChangeNothing(t *testing.T) {
	l := append(richSteps(), probes()...)
	plain, looked := world.New([]byte("s")), world.New([]byte("s"))
	for _, d := range l {
		want := plain.Do(d)
		for _, name := range append(plain.Names(), "nobody") {
			looked.Own(name)
			looked.Certs(name)
			looked.Journal(name)
		}
		looked.Names()
		looked.Waiting()
		if before := seen(looked); seen(looked) != before {
			t.Errorf("P24.1: two looks show two things, ahead of %s", shownDo(d))
		}
		wantTold(t, looked, d, want)
	}
	if seen(plain) != seen(looked) {
		t.Errorf("P24.1: without and with looks between the steps: %s", unlike(seen(plain), seen(looked)))
	}
}
