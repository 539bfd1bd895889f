package context_test

import (
	"strings"
	"testing"

	"hearsay/api"
	"hearsay/cert"
	"hearsay/syntax"
)

// P20.6: Export.

// fuels: of all sorts.
func fuels() []int { return []int{leastInt, -1, 0, 1, 2, 3, 4, 9, 5001, greatestInt} }

// TestExportOfNoClause: the text's fault comes ahead of all else.
func TestExportOfNoClause(t *testing.T) {
	r := ringOf(t, "s", "ann")
	x := newContext(t, r, "ann")
	asserted(t, x, "p(a). p(b). q(X) :- p(X).")
	all := map[string]api.Fault{
		"": fault(api.ErrOne, 0), "p(a). p(b).": fault(api.ErrOne, 0), "p(a). p(a).": fault(api.ErrOne, 0), "bob says p(a). p(a).": fault(api.ErrOne, 0), "t :- p(a); p(b).": fault(api.ErrOne, 0),
		"p(a).\n" + strings.Repeat(" ", 32768): fault(api.ErrTextLong, 0), "p(a)?": fault(api.ErrSyntax, 4), "bob says p(X).": fault(api.ErrSafe, 0),
	}
	for text, want := range faulty() {
		if _, f := syntax.Clause(text); f == want {
			all[text] = want
		}
	}
	if len(all) < 25 {
		t.Errorf("just %d texts", len(all))
	}
	for text, want := range all {
		for _, fuel := range fuels() {
			wantNoExport(t, r, x, text, fuel, want)
		}
	}
}

// TestExportOfAQualifiedHead: also if the clause is an own one, has a body, or is a fact that follows.
func TestExportOfAQualifiedHead(t *testing.T) {
	r := ringOf(t, "s", "ann", "bob")
	x := newContext(t, r, "ann")
	asserted(t, x, "ann says p(a). bob says q(X) :- p(X). p(b).")
	for _, text := range texts("ann says p(a).", "bob says q(X) :- p(X).", "bob says q(b).", "bob says q(c).", "bob says t :- p(a).") {
		for _, fuel := range fuels() {
			wantNoExport(t, r, x, text, fuel, fault(api.ErrQualified, 0))
		}
	}
}

// TestExportOfOwnClauses: of every kind, whatever the fuel, and whether or not there is a model.
func TestExportOfOwnClauses(t *testing.T) {
	own := texts("p(a).", "q(X) :- p(X).", "t :- 2 < 1.", "q(X) :- W says p(X), X != 7.", "p(\"\", -3).", "u :- u.")
	r := ringOf(t, "s", "ann")
	x := newContext(t, r, "ann")
	asserted(t, x, strings.Join(own, " "))
	export := func() {
		for _, text := range own {
			for _, fuel := range fuels() {
				wantExport(t, r, "s", x, text, fuel)
			}
		}
		wantExport(t, r, "s", x, "q(Other) :- p(Other). % the same", -5)
	}
	export()
	asserted(t, x, numbered("d", 0, 2000))
	export()
	wantRetract(t, x, "p(a).", 1, ok)
	wantNoExport(t, r, x, "p(a).", 9, fault(api.ErrMany, 0))
}

// TestExportOfRulesThatAreNotOwn: ErrNotHeld, ahead of what the fuel or the limits would say.
func TestExportOfRulesThatAreNotOwn(t *testing.T) {
	r := ringOf(t, "s", "ann", "bob")
	x := newContext(t, r, "ann")
	asserted(t, x, "p(a). q(X) :- p(X).")
	imported(t, x, issued(t, r, "bob", "q(X) :- p(X), p(X)."))
	refuse := func() {
		for _, text := range texts("p(a) :- p(a).", "p(a) :- 1 < 2.", "q(X) :- p(X), p(X).", "q(X) :- p(X), 1 < 2.", "q(X) :- ann says p(X).", "t :- p(a).", "q(a) :- p(a).") {
			for _, fuel := range fuels() {
				wantNoExport(t, r, x, text, fuel, fault(api.ErrNotHeld, 0))
			}
		}
	}
	refuse()
	asserted(t, x, numbered("d", 0, 2000))
	refuse()
}

// TestExportOfFacts: with every fuel from none up to enough: Run's error first, then whether it is a fact of the model.
func TestExportOfFacts(t *testing.T) {
	r := ringOf(t, "s", "ann", "bob")
	x := newContext(t, r, "ann")
	asserted(t, x, "e(1, 2). e(2, 3). e(3, 4). path(X, Y) :- e(X, Y). path(X, Y) :- e(X, Z), path(Z, Y). bob says p(a). q(X) :- bob says p(X).")
	const rounds = 5
	facts := texts("path(1, 2).", "path(1, 4).", "q(a).", "path(2, 4).")
	others := texts("path(4, 1).", "q(b).", "p(a).", "path(1).", "q.", "path(\"1\", 2).")
	for fuel := -2; fuel <= rounds+3; fuel++ {
		for _, text := range append(others, facts...) {
			switch {
			case fuel < rounds:
				wantNoExport(t, r, x, text, fuel, fault(api.ErrFuel, 0))
			case strings.Contains(strings.Join(facts, " "), text):
				b := wantExport(t, r, "s", x, text, fuel)
				if _, err := cert.Open(r, b); err != api.OK {
					t.Errorf("P20.6: what is exported is opened with %d", err)
				}
			default:
				wantNoExport(t, r, x, text, fuel, fault(api.ErrNotHeld, 0))
			}
		}
		wantExport(t, r, "s", x, "e(1, 2).", fuel)
	}
	retracted(t, x, "e(2, 3).")
	wantNoExport(t, r, x, "path(1, 4).", 9, fault(api.ErrNotHeld, 0))
	wantExport(t, r, "s", x, "path(1, 2).", 9)
}

// TestExportedIsNotHeld: the exporter's context stays as it was; what it exported is said by it, not held by it.
func TestExportedIsNotHeld(t *testing.T) {
	r := ringOf(t, "s", "ann")
	x := newContext(t, r, "ann")
	asserted(t, x, "p(a). q(X) :- p(X).")
	before := seen(x)
	wantExport(t, r, "s", x, "q(a).", 3)
	if seen(x) != before {
		t.Error("P20.6: Export changes the context")
	}
	wantRetract(t, x, "p(a).", 1, ok)
	wantNoExport(t, r, x, "q(a).", 3, fault(api.ErrNotHeld, 0))
	wantNoExport(t, r, x, "p(a).", 3, fault(api.ErrNotHeld, 0))
}

// TestExportAcrossARing: what is exported by one is taken by all others on the ring, and by none on another.
func TestExportAcrossARing(t *testing.T) {
	r, other := ringOf(t, "s", "ann", "bob"), ringOf(t, "t", "ann", "bob")
	x, y, far := newContext(t, r, "ann"), newContext(t, r, "bob"), newContext(t, other, "bob")
	asserted(t, x, "p(a). q(X) :- p(X).")
	for _, text := range texts("p(a).", "q(X) :- p(X).", "q(a).") {
		b := wantExport(t, r, "s", x, text, 3)
		wantImport(t, y, b, true, api.OK)
		wantImport(t, far, b, false, api.ErrSeal)
	}
	wantClauses(t, y, "ann says p(a).", "ann says q(a).", "ann says q(V0) :- ann says p(V0).")
	wantNoExport(t, r, y, "p(a).", 9, fault(api.ErrNotHeld, 0))
	wantNoExport(t, r, y, "ann says p(a).", 9, fault(api.ErrQualified, 0))
}
