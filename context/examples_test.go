package context_test

import (
	"testing"

	"hearsay/api"
	"hearsay/cert"
	"hearsay/context"
	"hearsay/keys"
)

// The examples of chapter 20, row by row, one behind the other.

// stage: the examples' ring with the contexts A and B, and the certificates P and Q.
type stage struct {
	t         *testing.T
	ring      *keys.Ring
	a, b      *context.Context
	certP, cQ []byte
}

func TestExamples(t *testing.T) {
	r := ringOf(t, "s", "ann", "bob")
	s := &stage{t: t, ring: r, a: newContext(t, r, "ann"), b: newContext(t, r, "bob")}
	for _, row := range []func(){s.news, s.asserts, s.exports, s.noExports, s.imports, s.queries, s.watches, s.forgets, s.plays} {
		row()
	}
}

func (s *stage) news() {
	for _, x := range []struct {
		name string
		want api.Errno
	}{{"", api.ErrPrincipal}, {"carl", api.ErrUnknown}} {
		if c, err := context.New(s.ring, x.name); c != nil || err != x.want {
			s.t.Errorf("P20.1: New(%q) is %v, %d, want %d", x.name, c, err, x.want)
		}
	}
}

func (s *stage) asserts() {
	wantAssert(s.t, s.a, "p(a). p(a). q(X) :- p(X).", 2, ok)
	wantStill(s.t, "an Assert that is refused", s.ring, s.a, func() {
		wantAssert(s.t, s.a, "p(a). r(", 0, fault(api.ErrSyntax, 8))
		wantAssert(s.t, s.a, "p(X).", 0, fault(api.ErrSafe, 0))
	})
	wantOwn(s.t, s.a, "p(a).", "q(V0) :- p(V0).")
}

func (s *stage) exports() {
	s.certP = wantExport(s.t, s.ring, "s", s.a, "p(a).", 0)
	wantNoExport(s.t, s.ring, s.a, "q(a).", 1, fault(api.ErrFuel, 0))
	s.cQ = wantExport(s.t, s.ring, "s", s.a, "q(a).", 3)
}

func (s *stage) noExports() {
	wantNoExport(s.t, s.ring, s.a, "q(b).", 3, fault(api.ErrNotHeld, 0))
	wantNoExport(s.t, s.ring, s.a, "q(X) :- p(X), p(X).", 3, fault(api.ErrNotHeld, 0))
	wantNoExport(s.t, s.ring, s.a, "bob says p(a).", 3, fault(api.ErrQualified, 0))
	wantNoExport(s.t, s.ring, s.a, "p(a)", 3, fault(api.ErrSyntax, 4))
}

func (s *stage) imports() {
	wantImport(s.t, s.b, s.certP, true, api.OK)
	wantImport(s.t, s.b, s.certP, false, api.OK)
	wantImport(s.t, s.b, nil, false, api.ErrMagic)
	wantClauses(s.t, s.b, "ann says p(a).")
	wantOwn(s.t, s.b)
}

func (s *stage) queries() {
	reply, f := s.b.Query("W says p(Y)?", 2)
	want := api.Proof{Rules: programOf(s.t, "ann says p(a)."), Steps: []api.Step{{}}}
	if f != ok || reply.Rounds != 2 || len(reply.Proofs) != 1 || !sameProof(reply.Proofs[0], want) {
		s.t.Errorf("P20.7: %+v, %v", reply, f)
	}
	wantQuery(s.t, s.b, "W says p(Y)?", 2, 2, "ann says p(a)")
	wantQuery(s.t, s.b, "p(Y)?", 2, 2)
	wantNoQuery(s.t, s.b, "p(Y)?", 1, fault(api.ErrFuel, 0))
	wantNoQuery(s.t, s.b, "p(Y).", 2, fault(api.ErrSyntax, 4))
}

func (s *stage) watches() {
	wantWatch(s.t, s.b, "ok(Y)?", 1, ok)
	wantAssert(s.t, s.b, "ok(Y) :- ann says p(Y). ok(z).", 2, ok)
	wantNews(s.t, s.b, 1, "ok(a) ok(z)", "")
	wantNews(s.t, s.b, 1, "", "")
	wantNoNews(s.t, s.b, 2, api.ErrWatch)
	wantAsk(s.t, s.b, "ok(Y)?", "ok(a)", "ok(z)")
}

func (s *stage) forgets() {
	wantForget(s.t, s.b, cert.Id(s.certP), api.OK)
	wantForget(s.t, s.b, cert.Id(s.certP), api.ErrNoCert)
	wantNews(s.t, s.b, 1, "", "ok(a)")
	wantRetract(s.t, s.b, "ok(z). ok(y).", 0, fault(api.ErrNotOwn, 0))
	wantRetract(s.t, s.b, "ok(z). ok(z).", 1, ok)
}

func (s *stage) plays() {
	z := clauseOf(s.t, "ok(z).")
	wantPlay(s.t, s.b, api.Record{Kind: api.RecAssert, Clause: z}, api.OK)
	wantPlay(s.t, s.b, api.Record{Kind: api.RecAssert, Clause: z}, api.ErrReplay)
	wantPlay(s.t, s.b, api.Record{Kind: api.RecRetract, Clause: z}, api.OK)
	wantPlay(s.t, s.b, api.Record{}, api.ErrReplay)
	wantImport(s.t, s.a, s.certP, true, api.OK)
	wantClauses(s.t, s.a, "p(a).", "ann says p(a).", "q(V0) :- p(V0).")
	wantImport(s.t, s.b, s.cQ, true, api.OK)
	wantClauses(s.t, s.b, "ok(V0) :- ann says p(V0).", "ann says q(a).")
}
