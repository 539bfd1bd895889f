package context_test

import (
	"strings"
	"testing"

	"hearsay/api"
	"hearsay/cert"
	"hearsay/context"
)

// P20.1: New, Name.

func TestNewRefuses(t *testing.T) {
	r := ringOf(t, "s", "ann", long(64))
	before := signed(r)
	for _, x := range []struct {
		name string
		want api.Errno
	}{
		{"", api.ErrPrincipal}, {long(65), api.ErrPrincipal}, {long(1000), api.ErrPrincipal}, {strings.Repeat("\x00", 65), api.ErrPrincipal},
		{"bob", api.ErrUnknown}, {"Ann", api.ErrUnknown}, {"an", api.ErrUnknown}, {"ann ", api.ErrUnknown}, {"\x00", api.ErrUnknown}, {long(63), api.ErrUnknown},
		{strings.Repeat("b", 64), api.ErrUnknown},
	} {
		if c, err := context.New(r, x.name); c != nil || err != x.want {
			t.Errorf("P20.1: New(%q) is %v, %d, want %d", x.name, c, err, x.want)
		}
	}
	if signed(r) != before {
		t.Error("P20.1: New changes the ring")
	}
}

// TestNewIsEmpty: whatever text the principal is; without clauses, certificates and watches.
func TestNewIsEmpty(t *testing.T) {
	for _, name := range texts("ann", "a", long(64), "\x00", " says ", "Ann", "7", strings.Repeat("\xff", 64), "\"q\"") {
		r := ringOf(t, "s", "bob", name)
		x := newContext(t, r, name)
		if x.Name() != name {
			t.Errorf("P20.1: the name is %q, want %q", x.Name(), name)
		}
		wantOwn(t, x)
		wantClauses(t, x)
		wantCerts(t, x)
		wantNoNews(t, x, 1, api.ErrWatch)
		wantNoNews(t, x, 0, api.ErrWatch)
		wantQuery(t, x, "p(X)?", 1, 1)
		wantNoQuery(t, x, "p(X)?", 0, fault(api.ErrFuel, 0))
		wantAsk(t, x, "p(X)?")
		if len(r.Signed(name)) != 0 {
			t.Error("P20.1: New signs")
		}
	}
}

// TestEnrolledLater: who had no key may get one.
func TestEnrolledLater(t *testing.T) {
	r := ringOf(t, "s")
	if _, err := context.New(r, "ann"); err != api.ErrUnknown {
		t.Errorf("P20.1: %d", err)
	}
	r.Enroll("ann")
	wantClauses(t, newContext(t, r, "ann"))
}

// TestContextsShareNothing: of one principal or of two, on one ring or on two; but that what is signed on a ring is opened by all on it.
func TestContextsShareNothing(t *testing.T) {
	r, other := ringOf(t, "s", "ann", "bob"), ringOf(t, "s", "ann", "bob")
	x := newContext(t, r, "ann")
	same, bobs, far := newContext(t, r, "ann"), newContext(t, r, "bob"), newContext(t, other, "ann")
	empty := map[*context.Context]string{}
	for _, y := range []*context.Context{same, bobs, far} {
		asserted(t, y, "q(7).")
		wantWatch(t, y, "p(X)?", 1, ok)
		empty[y] = seen(y)
	}
	asserted(t, x, "p(a). q(X) :- p(X).")
	b := exported(t, x, "p(a).")
	imported(t, x, b)
	wantWatch(t, x, "p(X)?", 1, ok)
	wantWatch(t, x, "q(X)?", 2, ok)
	for _, y := range []*context.Context{same, bobs, far} {
		if seen(y) != empty[y] {
			t.Errorf("P20.1: what one context does is seen in another: %s", seen(y))
		}
		wantNews(t, y, 1, "", "")
		wantNoNews(t, y, 2, api.ErrWatch)
		wantForget(t, y, cert.Id(b), api.ErrNoCert)
		wantRetract(t, y, "p(a).", 0, fault(api.ErrNotOwn, 0))
	}
	wantNoExport(t, r, same, "p(a).", 9, fault(api.ErrNotHeld, 0))
	wantImport(t, same, b, true, api.OK)
	wantImport(t, bobs, b, true, api.OK)
	wantImport(t, far, b, false, api.ErrSeal)
	asserted(t, far, "p(a).")
	if string(exported(t, far, "p(a).")) != string(b) {
		t.Error("P20.13: rings with one secret give different seals")
	}
	wantImport(t, far, b, true, api.OK)
	wantForget(t, bobs, cert.Id(b), api.OK)
	wantCerts(t, x, b)
	wantCerts(t, same, b)
}
