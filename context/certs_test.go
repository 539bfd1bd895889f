package context_test

import (
	"slices"
	"testing"

	"hearsay/api"
	"hearsay/cert"
)

// P20.4, P20.5: Import and Forget; P20.11: Certs and Clauses.

// TestImport: a certificate is there once; what it says is held as its quote.
func TestImport(t *testing.T) {
	r := ringOf(t, "s", "ann", "bob", "carl")
	x := newContext(t, r, "ann")
	var certs [][]byte
	for _, y := range []struct{ u, text string }{
		{"bob", "p(a)."}, {"carl", "p(a)."}, {"ann", "p(a)."}, {"bob", "q(X) :- p(X), carl says p(X), W says p(X), X != 7."}, {"bob", "t."},
	} {
		b := issued(t, r, y.u, y.text)
		wantImport(t, x, b, true, api.OK)
		certs = append(certs, b)
		for _, again := range certs {
			wantImport(t, x, again, false, api.OK)
		}
		wantCerts(t, x, certs...)
	}
	wantOwn(t, x)
	wantClauses(t, x, "ann says p(a).", "bob says p(a).", "carl says p(a).", "bob says q(V0) :- bob says p(V0), carl says p(V0), V1 says p(V0), V0 != 7.", "bob says t.")
	wantQuery(t, x, "W says q(X)?", 9, 3, "bob says q(a)")
	wantQuery(t, x, "p(X)?", 9, 3)
}

// unopened: bytes that are refused on the ring, each with its error.
func unopened(t *testing.T, good string) map[string]api.Errno {
	seal := good[len(good)-32:]
	head := "HSC1\x03bob"
	turned := []byte(good)
	turned[len(turned)-1] ^= 1
	return map[string]api.Errno{
		"": api.ErrMagic, "H": api.ErrMagic, "HSC": api.ErrMagic, "HSC2" + good[4:]: api.ErrMagic, good[1:]: api.ErrMagic,
		"HSC1": api.ErrShort, "HSC1\x03bo": api.ErrShort, head: api.ErrShort, head + seal[1:]: api.ErrShort, head + seal: api.ErrShort, good[:len(good)-1]: api.ErrShort, bodyOf(good): api.ErrShort,
		"HSC1\x00" + good[5:]: api.ErrCode, "HSC1\x41" + good[5:]: api.ErrCode, head + "\x09" + seal: api.ErrCode,
		head + "\x02\x03ann\x01t\x00\x00\x00" + seal: api.ErrCode, // ann says t., said by bob
		good + "\x00": api.ErrTail, good + good: api.ErrTail,
		string(turned): api.ErrSeal, sealed("s", "bob", head+"\x00\x01u\x00\x00\x00"): api.ErrSeal, "HSC1\x03ann" + good[8:]: api.ErrSeal, sealed("s", "dan", "HSC1\x03dan"+bodyOf(good)[8:]): api.ErrSeal,
	}
}

// TestImportRefuses: every error of chapter 19, and nothing changes.
func TestImportRefuses(t *testing.T) {
	r, other := ringOf(t, "s", "ann", "bob"), ringOf(t, "s", "ann", "bob")
	x := newContext(t, r, "ann")
	asserted(t, x, "p(a). ok(X) :- W says p(X).")
	good := string(issued(t, r, "bob", "t."))
	imported(t, x, issued(t, r, "bob", "p(b)."))
	toldErrors := map[api.Errno]int{}
	for b, want := range unopened(t, good) {
		if _, err := cert.Open(r, []byte(b)); err != want {
			t.Fatalf("Open(%x) is %d, not %d", b, err, want)
		}
		toldErrors[want]++
		wantStill(t, "an Import that is refused", r, x, func() {
			wantImport(t, x, []byte(b), false, want)
			wantPlay(t, x, api.Record{Kind: api.RecTake, Bytes: []byte(b)}, api.ErrReplay)
		})
	}
	if len(toldErrors) != 5 {
		t.Errorf("not every error: %v", toldErrors)
	}
	foreign := issued(t, other, "bob", "u.")
	wantImport(t, x, foreign, false, api.ErrSeal)
	if string(issued(t, r, "bob", "u.")) != string(foreign) {
		t.Fatal("one secret, two seals")
	}
	wantImport(t, x, foreign, true, api.OK)
	wantImport(t, x, []byte(good), true, api.OK)
}

// TestEveryBitTurned: a certificate of which one bit is turned is refused, taken or not.
func TestEveryBitTurned(t *testing.T) {
	r := ringOf(t, "s", "ann", "bob")
	x := newContext(t, r, "ann")
	good := issued(t, r, "bob", "p(a).")
	for range 2 {
		before := seen(x)
		for bit := range 8 * len(good) {
			b := slices.Clone(good)
			b[bit/8] ^= 1 << (bit % 8)
			if came, err := x.Import(b); came || err == api.OK {
				t.Errorf("P20.4: Import(%x) is %t, %d", b, came, err)
			}
			wantForget(t, x, cert.Id(b), api.ErrNoCert)
		}
		if seen(x) != before {
			t.Error("P20.13: a spoilt certificate changes the context")
		}
		imported(t, x, good)
	}
	wantCerts(t, x, good)
}

// TestOwnCertificates: a context takes what its own principal says like any other's.
func TestOwnCertificates(t *testing.T) {
	x := contextOf(t, "p(a). q(X) :- p(X). q(X) :- ann says p(X).")
	b, rule := exported(t, x, "p(a)."), exported(t, x, "q(X) :- p(X).")
	wantImport(t, x, b, true, api.OK)
	wantImport(t, x, b, false, api.OK)
	wantImport(t, x, rule, true, api.OK)
	wantOwn(t, x, "p(a).", "q(V0) :- p(V0).", "q(V0) :- ann says p(V0).")
	wantClauses(t, x, "p(a).", "ann says p(a).", "q(V0) :- p(V0).", "q(V0) :- ann says p(V0).", "ann says q(V0) :- ann says p(V0).")
	wantQuery(t, x, "W says q(X)?", 3, 3, "ann says q(a)")
	wantRetract(t, x, "p(a).", 1, ok)
	wantQuery(t, x, "q(X)?", 3, 3, "q(a)")
	wantForget(t, x, cert.Id(b), api.OK)
	wantQuery(t, x, "q(X)?", 3, 1)
}

// TestForget: just the certificate of the id goes.
func TestForget(t *testing.T) {
	r := ringOf(t, "s", "ann", "bob", "carl")
	x := newContext(t, r, "ann")
	asserted(t, x, "p(c).")
	a, b, c := issued(t, r, "bob", "p(a)."), issued(t, r, "bob", "p(b)."), issued(t, r, "carl", "p(a).")
	out := issued(t, r, "bob", "p(c).")
	imported(t, x, a, b, c)
	wantStill(t, "a Forget that is refused", r, x, func() {
		spoilt := cert.Id(a)
		spoilt[31] ^= 1
		for _, id := range []api.Digest{{}, never, spoilt, cert.Id(out), cert.Id(nil), sum(bodyOf(string(a)))} {
			wantForget(t, x, id, api.ErrNoCert)
			wantPlay(t, x, api.Record{Kind: api.RecForget, Id: id}, api.ErrReplay)
		}
	})
	wantForget(t, x, cert.Id(a), api.OK)
	wantForget(t, x, cert.Id(a), api.ErrNoCert)
	wantCerts(t, x, b, c)
	wantClauses(t, x, "p(c).", "bob says p(b).", "carl says p(a).")
	wantImport(t, x, a, true, api.OK)
	wantForget(t, x, cert.Id(b), api.OK)
	wantForget(t, x, cert.Id(c), api.OK)
	wantCerts(t, x, a)
	wantForget(t, x, cert.Id(a), api.OK)
	wantCerts(t, x)
	wantClauses(t, x, "p(c).")
	wantOwn(t, x, "p(c).")
}

// TestSameQuote: two certificates have one quote: it is there as long as one of them is.
func TestSameQuote(t *testing.T) {
	r := ringOf(t, "s", "ann", "bob")
	one, two := issued(t, r, "bob", "q(X) :- p(X)."), issued(t, r, "bob", "q(X) :- bob says p(X).")
	for _, gone := range [][][]byte{{one, two}, {two, one}} {
		x := newContext(t, r, "ann")
		wantImport(t, x, one, true, api.OK)
		wantImport(t, x, two, true, api.OK)
		for _, b := range gone {
			wantClauses(t, x, "bob says q(V0) :- bob says p(V0).")
			wantForget(t, x, cert.Id(b), api.OK)
		}
		wantClauses(t, x)
	}
}

// TestOwnClauseAndQuote: the same clause as an own one and as a quote is there as long as one of the two is, whichever came first.
func TestOwnClauseAndQuote(t *testing.T) {
	for _, text := range texts("p(a).", "q(X) :- p(X), W says p(X), X != 7.") {
		r := ringOf(t, "s", "ann", "bob")
		b := issued(t, r, "bob", text)
		c := quoted("bob", clauseOf(t, text))
		quote := told([]api.Clause{c})[0]
		for order := range 4 {
			x := newContext(t, r, "ann")
			wantWatch(t, x, "W says p(X)?", 1, ok)
			comes := []func(){func() { wantAssert(t, x, quote, 1, ok) }, func() { wantImport(t, x, b, true, api.OK) }}
			goes := []func(){func() { wantRetract(t, x, quote, 1, ok) }, func() { wantForget(t, x, cert.Id(b), api.OK) }}
			comes[order%2]()
			wantClauses(t, x, quote)
			x.News(1)
			comes[1-order%2]()
			wantClauses(t, x, quote)
			wantOwn(t, x, quote)
			wantCerts(t, x, b)
			goes[order/2]()
			wantClauses(t, x, quote)
			wantNews(t, x, 1, "", "")
			goes[1-order/2]()
			wantClauses(t, x)
			wantOwn(t, x)
			wantCerts(t, x)
			if text == "p(a)." {
				wantNews(t, x, 1, "", "bob says p(a)")
			}
		}
	}
}

// TestCertsInOrder: by their ids, not by their bytes, nor as they came.
func TestCertsInOrder(t *testing.T) {
	r := ringOf(t, "s", "ann", "bob")
	var certs [][]byte
	for n := range 60 {
		certs = append(certs, issued(t, r, texts("ann", "bob")[n%2], numbered("p", n, n+1)))
	}
	c := newChosen(3)
	for range 5 {
		x := newContext(t, r, "bob")
		c.Shuffle(len(certs), func(i, k int) { certs[i], certs[k] = certs[k], certs[i] })
		imported(t, x, certs...)
		wantCerts(t, x, certs...)
		if l := x.Certs(); slices.IsSortedFunc(l, slices.Compare) {
			t.Error("the ids have the bytes' order")
		}
	}
}
