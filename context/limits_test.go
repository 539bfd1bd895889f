package context_test

import (
	"fmt"
	"strings"
	"testing"

	"hearsay/api"
	"hearsay/cert"
	"hearsay/context"
	"hearsay/eval"
)

// R7: limits of the layers below, reached through a context: they are asked when something is evaluated, never when a clause or a certificate comes.

// wantEvaluated: every call that evaluates is answered with this error; those that don't are answered as ever.
func wantEvaluated(t *testing.T, x *context.Context, err api.Errno, watches int) {
	t.Helper()
	wantNoQuery(t, x, "p(0)?", 9, fault(err, 0))
	wantWatch(t, x, "p(0)?", 0, fault(err, 0))
	for w := 1; w <= watches; w++ {
		wantNoNews(t, x, w, err)
	}
	wantNoNews(t, x, watches+1, api.ErrWatch)
	if b, f := x.Export("never.", 9); len(b) != 0 || f != fault(err, 0) {
		t.Errorf("P20.6: Export of a fact is %x, %v, want %d", b, f, err)
	}
	exported(t, x, "p(0).")
}

// TestManyClauses: 1000 different clauses are evaluated, 1001 aren't; own ones and quotes count alike, and one that is both counts once.
func TestManyClauses(t *testing.T) {
	r := ringOf(t, "s", "ann", "bob")
	x := newContext(t, r, "ann")
	asserted(t, x, numbered("p", 0, 997)+"bob says p(0).")
	wantWatch(t, x, "p(X)?", 1, ok)
	same, one, two := issued(t, r, "bob", "p(0)."), issued(t, r, "bob", "p(1)."), issued(t, r, "bob", "p(2).")
	imported(t, x, same, one, two)
	wantQuery(t, x, "W says p(X)?", 9, 2, "bob says p(0)", "bob says p(1)", "bob says p(2)")
	third := issued(t, r, "bob", "p(3).")
	wantImport(t, x, third, true, api.OK)
	wantEvaluated(t, x, api.ErrMany, 1)
	wantNoQuery(t, x, "p(0)?", 0, fault(api.ErrMany, 0)) // ErrMany comes ahead of ErrFuel
	wantNoAsk(t, x, "p(0)?", fault(api.ErrMany, 0))
	wantForget(t, x, cert.Id(same), api.OK) // it is an own clause still
	wantEvaluated(t, x, api.ErrMany, 1)
	wantRetract(t, x, "bob says p(0).", 1, ok)
	wantQuery(t, x, "W says p(X)?", 9, 2, "bob says p(1)", "bob says p(2)", "bob says p(3)")
	wantNews(t, x, 1, "", "")
	asserted(t, x, numbered("p", 997, 3000))
	wantEvaluated(t, x, api.ErrMany, 1)
	retracted(t, x, numbered("p", 996, 3000))
	wantNews(t, x, 1, "", "p(996)")
	wantWatch(t, x, "p(0)?", 2, ok)
}

// wide: 10 facts in round 1, 10000 more in round 2.
const wide = "w(A, B, C, D) :- n(A), n(B), n(C), n(D)."

// TestManyFacts: and every order in which the fuels come.
func TestManyFacts(t *testing.T) {
	c := newChosen(7)
	for range 12 {
		x := contextOf(t, "p(0). "+numbered("n", 0, 10)+wide)
		for range 12 {
			fuel := one(c, leastInt, -1, 0, 1, 2, 3, 5001, greatestInt)
			want := api.ErrFuel
			if fuel >= 2 {
				want = api.ErrFacts
			}
			wantNoQuery(t, x, "n(X)?", fuel, fault(want, 0))
			if b, f := x.Export("n(77).", fuel); len(b) != 0 || f != fault(want, 0) {
				t.Errorf("P20.6: Export of a fact with fuel %d is %x, %v, want %d", fuel, b, f, want)
			}
		}
		wantEvaluated(t, x, api.ErrFacts, 0)
		wantAsk(t, x, "w(1, 2, 3, 4)?", "w(1, 2, 3, 4)")
		retracted(t, x, "n(0). n(1). n(2). n(3). n(4).")
		if reply, f := x.Query("w(A, B, 5, 6)?", 3); f != ok || len(reply.Answers) != 25 || reply.Rounds != 3 {
			t.Errorf("P20.7: %d answers in %d rounds, %v", len(reply.Answers), reply.Rounds, f)
		}
	}
}

// TestJustSoManyFacts: 5000 are a model, 5001 aren't.
func TestJustSoManyFacts(t *testing.T) {
	x := contextOf(t, numbered("a", 0, 70)+numbered("b", 0, 70)+"f(X, Y) :- a(X), b(Y).") // 140 + 4900
	wantNoQuery(t, x, "a(0)?", 9, fault(api.ErrFacts, 0))
	retracted(t, x, "a(69).") // 139 + 4830 = 4969
	asserted(t, x, numbered("g", 0, 31))
	wantQuery(t, x, "g(30)?", 9, 3, "g(30)")
	wantWatch(t, x, "g(31)?", 1, ok)
	asserted(t, x, "g(31).")
	wantNoQuery(t, x, "g(30)?", 9, fault(api.ErrFacts, 0))
	wantNoQuery(t, x, "g(30)?", 2, fault(api.ErrFacts, 0))
	wantNoQuery(t, x, "g(30)?", 1, fault(api.ErrFuel, 0))
	wantNoNews(t, x, 1, api.ErrFacts)
	retracted(t, x, "g(0).")
	wantNews(t, x, 1, "g(31)", "")
}

// TestManyFactsLate: the rounds decide between ErrFuel and ErrFacts, whatever was asked before: held against Run.
func TestManyFactsLate(t *testing.T) {
	var s strings.Builder
	for n := range 9 {
		fmt.Fprintf(&s, "n(%d, %d).\n", n, n+1)
	}
	// The steps reach all numbers in ten rounds; then there are too many fours of them.
	text := s.String() + "at(0). at(Y) :- at(X), n(X, Y). w(A, B, C, D) :- at(9), at(A), at(B), at(C), at(D)."
	cs := programOf(t, text)
	c := newChosen(9)
	for range 6 {
		x := contextOf(t, text)
		for range 10 {
			fuel := one(c, 0, 1, 5, 9, 10, 11, 12, 5001)
			_, want := eval.Run(cs, fuel, 3)
			wantNoQuery(t, x, "at(X)?", fuel, fault(want, 0))
		}
		wantNoNews(t, x, 1, api.ErrWatch)
		wantWatch(t, x, "at(X)?", 0, fault(api.ErrFacts, 0))
	}
}

// TestFuelSpares: no more rounds are run than the fuel allows: of what the second round would find no machine can list the ways.
func TestFuelSpares(t *testing.T) {
	x := contextOf(t, numbered("n", 0, 900)+"t :- n(A), n(B), n(C), n(D), n(E), n(F), n(G), n(H), A < B, B < C, C < D, D < E, E < F, F < G, G < H, H < A.")
	for _, fuel := range []int{1, 0, -1, 1} {
		wantNoQuery(t, x, "n(5)?", fuel, fault(api.ErrFuel, 0))
		if b, f := x.Export("n(900).", fuel); len(b) != 0 || f != fault(api.ErrFuel, 0) {
			t.Errorf("P20.6: Export with fuel %d is %x, %v", fuel, b, f)
		}
	}
	exported(t, x, "n(5).")
	wantAsk(t, x, "n(5)?", "n(5)")
}

// TestManyCertificates: far more than an evaluation takes; they come, are told in order, and go.
func TestManyCertificates(t *testing.T) {
	r := ringOf(t, "s", "ann", "bob")
	x := newContext(t, r, "ann")
	var certs [][]byte
	for n := range 1500 {
		certs = append(certs, issued(t, r, "bob", fmt.Sprintf("p(%d).", n)))
		wantImport(t, x, certs[n], true, api.OK)
	}
	wantCerts(t, x, certs...)
	wantNoQuery(t, x, "W says p(X)?", 9, fault(api.ErrMany, 0))
	for _, b := range certs[3:] {
		wantForget(t, x, cert.Id(b), api.OK)
	}
	wantQuery(t, x, "W says p(X)?", 9, 2, "bob says p(0)", "bob says p(1)", "bob says p(2)")
	wantCerts(t, x, certs[:3]...)
}
