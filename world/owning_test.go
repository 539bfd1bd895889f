package world_test

import (
	"strings"
	"testing"

	"hearsay/api"
)

// P24.2, P24.3: DoAssert and DoRetract.

// TestAssert: N is how many weren't own ones; of each of these a record, in the order of clauses, whatever the text's order is.
func TestAssert(t *testing.T) {
	w := enrolled(t, "ann", "bob")
	wantTold(t, w, doAssert("ann", "q(b). p :- q(b). p. q(a). p. q(1)."), toldN(5))
	want := []api.Record{assertion("p."), assertion("p :- q(b)."), assertion("q(1)."), assertion("q(a)."), assertion("q(b).")}
	wantJournal(t, w, "ann", want...)
	wantOwn(t, w, "ann", "p.", "p :- q(b).", "q(1).", "q(a).", "q(b).")
	wantTold(t, w, doAssert("ann", "q(c). q(a). o. q(b). bob says p. q(c)."), toldN(3))
	want = append(want, assertion("o."), assertion("bob says p."), assertion("q(c)."))
	wantJournal(t, w, "ann", want...)
	for _, text := range texts("p.", "q(a). p. o.", "", " % nothing\n", "p :- q(b).") {
		wantLook(t, w, doAssert("ann", text), toldN(0))
	}
	wantTold(t, w, doAssert("ann", "r(Y) :- (q(Y); p), Y != 7, Y says r(Y)."), toldN(2))
	wantTold(t, w, doAssert("ann", "r(V0) :- q(V0), V0 != 7, V0 says r(V0). r(X) :- p, X != 7, X says r(X)."), toldN(0))
	want = append(want, assertion("r(X) :- p, X says r(X), X != 7."), assertion("r(X) :- q(X), X says r(X), X != 7."))
	wantJournal(t, w, "ann", want...)
	wantOwn(t, w, "bob")
	wantJournal(t, w, "bob")
}

// TestRetract: N is how many are gone; of each a record, in the order of clauses.
func TestRetract(t *testing.T) {
	w := enrolled(t, "ann", "bob")
	wantDone(t, w, doAssert("ann", "a. b. c. d. e. f :- a."), doAssert("bob", "a. b."))
	want := []api.Record{assertion("a."), assertion("b."), assertion("c."), assertion("d."), assertion("e."), assertion("f :- a.")}
	wantRefused(t, w, doRetract("ann", "a. never. b."), api.ErrNotOwn, 0)
	wantRefused(t, w, doRetract("ann", "f :- b."), api.ErrNotOwn, 0)
	wantTold(t, w, doRetract("ann", "d. b. d. b. b."), toldN(2))
	want = append(want, retraction("b."), retraction("d."))
	wantJournal(t, w, "ann", want...)
	wantRefused(t, w, doRetract("ann", "d."), api.ErrNotOwn, 0)
	wantRefused(t, w, doRetract("ann", "a. d."), api.ErrNotOwn, 0)
	for _, text := range texts("", "% nothing") {
		wantLook(t, w, doRetract("ann", text), toldN(0))
	}
	wantTold(t, w, doRetract("ann", "f :- a. e. c. a."), toldN(4))
	want = append(want, retraction("a."), retraction("c."), retraction("e."), retraction("f :- a."))
	wantJournal(t, w, "ann", want...)
	wantOwn(t, w, "ann")
	wantTold(t, w, doAssert("ann", "b."), toldN(1))
	wantJournal(t, w, "ann", append(want, assertion("b."))...)
	wantOwn(t, w, "bob", "a.", "b.")
}

// TestFaultsOfPrograms: told with their places; nothing of the text is taken, also what stands ahead of the fault.
func TestFaultsOfPrograms(t *testing.T) {
	w := enrolled(t, "ann")
	wantDone(t, w, doAssert("ann", "a. b."))
	for _, x := range []struct {
		text string
		err  api.Errno
		at   int
	}{
		{"p. p(X).", api.ErrSafe, 3}, {"p. q(", api.ErrSyntax, 5}, {"p. a:b", api.ErrByte, 4}, {"p(007).", api.ErrNumber, 2}, {"p. \"x", api.ErrOpen, 3}, {"p(\"\\q\").", api.ErrEscape, 3},
		{"p. X says q :- X says p.", api.ErrHead, 3}, {"p. " + long(33) + ".", api.ErrName, 3}, {"p(" + long(65) + ").", api.ErrTerm, 0}, {"p. \"\" says q.", api.ErrBy, 3}, {"p. q(1,2,3,4,5,6,7,8,9).", api.ErrArity, 3},
		{"p :- a,a,a,a,a,a,a,a,a.", api.ErrBody, 0}, {"p :- " + strings.Repeat("(", 17), api.ErrDepth, 21}, {"p. q :- " + strings.Repeat("(a;b),", 6) + "(a;b).", api.ErrAlts, 3}, {"p." + strings.Repeat(" ", api.MaxSource-1), api.ErrTextLong, 0},
	} {
		wantRefused(t, w, doAssert("ann", x.text), x.err, x.at)
		wantRefused(t, w, doRetract("ann", x.text), x.err, x.at)
		wantRefused(t, w, doAssert("bob", x.text), api.ErrNoContext, 0)
		wantRefused(t, w, doRetract("bob", x.text), api.ErrNoContext, 0)
	}
	wantTold(t, w, doAssert("ann", "p."+strings.Repeat(" ", api.MaxSource-2)), toldN(1))
	wantTold(t, w, doRetract("ann", "p."+strings.Repeat(" ", api.MaxSource-2)), toldN(1))
}

// TestManyClauses: more than a model is made of come and go, each with its record.
func TestManyClauses(t *testing.T) {
	x := newTwin(t, "s", doEnroll("ann"))
	x.do(doAssert("ann", numbered("p", 0, 3000)))
	x.do(doAssert("ann", numbered("p", 2990, 3010)+numbered("o", 0, 10)))
	x.do(doRetract("ann", numbered("p", 5, 3005)))
	x.look()
	wantTold(t, x.w, doQuery("ann", "p(X)?", 2), x.p.do(doQuery("ann", "p(X)?", 2)))
}
