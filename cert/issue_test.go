package cert_test

import (
	"slices"
	"testing"

	"hearsay/api"
	"hearsay/clause"
)

// P19.1, P19.2: Body, Issue.

// TestBodies: of every kind of principal and of clause.
func TestBodies(t *testing.T) {
	for _, u := range principals() {
		for _, c := range smallClauses() {
			wantBody(t, u, c, plainBody(u, c))
		}
	}
	for _, c := range validClauses() {
		wantBody(t, "ann", c, plainBody("ann", c))
	}
}

// TestBodyOfEveryLength: 1 to 64 bytes are a principal's.
func TestBodyOfEveryLength(t *testing.T) {
	for n := range 600 {
		if n >= 1 && n <= 64 {
			wantBody(t, long(n), fact("ok"), "HSC1"+string([]byte{byte(n)})+long(n)+"\x00\x02ok\x00\x00\x00")
		} else {
			wantNoBody(t, long(n), fact("ok"), api.ErrPrincipal)
		}
	}
}

// TestNilAndEmptyAreOne: R1, as arguments.
func TestNilAndEmptyAreOne(t *testing.T) {
	empty := api.Clause{Head: api.Atom{Name: "ok", Args: []api.Term{}}, Body: []api.Atom{}, Tests: []api.Test{}}
	wantBody(t, "ann", empty, unhex(exampleBody))
	wantIssued(t, ringOf(t, "s", "ann"), "ann", empty, exampleCert())
}

// TestSamplesAreWrong: that the clauses that the tests call so are, and for these reasons.
func TestSamplesAreWrong(t *testing.T) {
	var errs []api.Errno
	for _, w := range wrongClauses() {
		if err := clause.Check(w.c); err != w.err {
			t.Errorf("Check(%+v) is %d, want %d", w.c, err, w.err)
		}
		errs = append(errs, w.err)
	}
	slices.Sort(errs)
	if len(slices.Compact(errs)) != 9 {
		t.Errorf("just these errors: %d", errs)
	}
	for _, c := range append(validClauses(), qualifiedClauses()...) {
		if err := clause.Check(c); err != api.OK {
			t.Errorf("Check(%+v) is %d", c, err)
		}
	}
}

// TestErrorsInTheirOrder: no principal, then the clause's error, then the head's qualifier, then no key. Nothing is signed by any of them.
func TestErrorsInTheirOrder(t *testing.T) {
	r := ringOf(t, "s", "ann", "bob", long(64))
	issued(t, r, "ann", fact("p"))
	refused := func(u string, c api.Clause, err api.Errno) {
		t.Helper()
		wantNoBody(t, u, c, err)
		wantNotIssued(t, r, u, c, err)
	}
	for _, u := range noPrincipals() {
		for _, w := range wrongClauses() {
			refused(u, w.c, api.ErrPrincipal)
		}
		for _, c := range qualifiedClauses() {
			refused(u, c, api.ErrPrincipal)
		}
		for _, c := range smallClauses() {
			refused(u, c, api.ErrPrincipal)
		}
	}
	for _, u := range texts("ann", "bob", "carl", "\xff", long(63), long(64)) {
		for _, w := range wrongClauses() {
			refused(u, w.c, w.err)
		}
		for _, c := range qualifiedClauses() {
			refused(u, c, api.ErrQualified)
		}
	}
	for _, u := range texts("carl", "\xff", long(63), "Ann", "an", "ann ") {
		for _, c := range smallClauses() {
			wantBody(t, u, c, plainBody(u, c))
			wantNotIssued(t, r, u, c, api.ErrUnknown)
		}
	}
}

// TestUnknownSignsNothing: not even when it is enrolled afterwards.
func TestUnknownSignsNothing(t *testing.T) {
	r := ringOf(t, "s", "ann")
	wantNotIssued(t, r, "carl", fact("ok"), api.ErrUnknown)
	r.Enroll("carl")
	if l := r.Signed("carl"); len(l) != 0 {
		t.Errorf("P19.2: carl has signed %x", l)
	}
	b := sealed("s", "carl", plainBody("carl", fact("ok")))
	wantRefused(t, r, b, api.ErrSeal)
	wantIssued(t, r, "carl", fact("ok"), b)
	wantOpened(t, r, b, api.Cert{Signer: "carl", Clause: fact("ok"), Seal: api.Digest([]byte(b[16:]))})
}

// TestIssued: of every kind of principal and of clause, on rings of several secrets; again and again the same.
func TestIssued(t *testing.T) {
	for _, secret := range texts("", "s", "secret", long(64), long(65)) {
		r := ringOf(t, secret, principals()...)
		for range 2 {
			for _, u := range principals() {
				for _, c := range smallClauses()[:4] {
					wantIssued(t, r, u, c, sealed(secret, u, plainBody(u, c)))
				}
			}
		}
	}
	r := ringOf(t, "s", "ann", "bob")
	for range 2 {
		for _, c := range validClauses() {
			wantIssued(t, r, "bob", c, sealed("s", "bob", plainBody("bob", c)))
		}
	}
}

// TestIssuedIsWhatTheRingSigns: the body's digest, and nothing else, as the ring's own Sign seals it.
func TestIssuedIsWhatTheRingSigns(t *testing.T) {
	for _, c := range smallClauses() {
		r, other := ringOf(t, "s", "ann"), ringOf(t, "s", "ann")
		b := issued(t, r, "ann", c)
		d := sum(plainBody("ann", c))
		seal, _ := other.Sign("ann", d)
		if b != plainBody("ann", c)+string(seal[:]) || !r.Verify("ann", d, seal) || !slices.Equal(r.Signed("ann"), []api.Digest{d}) {
			t.Errorf("P19.2: issued %x; signed %x", b, r.Signed("ann"))
		}
	}
}
