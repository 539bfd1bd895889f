package journal_test

import (
	"testing"

	"hearsay/api"
	"hearsay/cert"
	"hearsay/context"
	"hearsay/journal"
	"hearsay/keys"
)

// P22.5: Again.

// life: a ring, certificates on it, and a history that a context of ann can have.
type life struct {
	ring  *keys.Ring
	certs []string
	l     []api.Record
}

func newLife(t *testing.T) life {
	t.Helper()
	r := ringOf(t, "s", "ann", "bob")
	certs := texts(issued(t, r, "bob", "p(a)."), issued(t, r, "bob", "p(b)."), issued(t, r, "ann", "p(X) :- bob says p(X)."))
	return life{r, certs, records(
		assertion(clauseOf(t, "ok(X) :- W says p(X).")), taking(certs[0]), assertion(clauseOf(t, "ok(z).")), taking(certs[1]), forgetting(cert.Id([]byte(certs[0]))),
		retraction(clauseOf(t, "ok(z).")), taking(certs[2]), assertion(clauseOf(t, "bob says p(d).")), taking(certs[0]), assertion(clauseOf(t, "ok(z).")), forgetting(cert.Id([]byte(certs[1]))),
	)}
}

// wantAnswers: how many answers ok(X) has.
func wantAnswers(t *testing.T, x *context.Context, want int) {
	t.Helper()
	if l, f := x.Ask("ok(X)?"); len(l) != want || f.Err != api.OK {
		t.Errorf("P22.5: ok(X) has the answers %+v, %v, want %d", l, f, want)
	}
}

// TestAgainBehindEachRecord: the context as it was behind it.
func TestAgainBehindEachRecord(t *testing.T) {
	y := newLife(t)
	j := newLog(t, "ann")
	wantAnswers(t, wantAgain(t, j, y.ring), 0)
	for i, answers := range []int{0, 1, 2, 3, 2, 1, 1, 2, 3, 4, 3} {
		noted(t, j, y.l[i])
		x := wantAgain(t, j, y.ring)
		wantAnswers(t, x, answers)
		if x.Name() != "ann" {
			t.Errorf("P22.5: the context's name is %q", x.Name())
		}
	}
	x := wantAgain(t, j, y.ring)
	if len(x.Own()) != 3 || len(x.Certs()) != 2 || len(x.Clauses()) != 5 {
		t.Errorf("P22.5: the context has %+v, %x, %+v", x.Own(), x.Certs(), x.Clauses())
	}
}

// TestAgainOfOpened: out of what was opened likewise.
func TestAgainOfOpened(t *testing.T) {
	y := newLife(t)
	b, ends := plainJournal("ann", y.l), endsOf("ann", y.l)
	for _, end := range ends {
		j, _ := opened(t, b[:end])
		wantAgain(t, j, y.ring)
	}
}

// TestAgainWithoutAKey: ErrUnknown, whatever the records are.
func TestAgainWithoutAKey(t *testing.T) {
	y := newLife(t)
	for _, l := range [][]api.Record{nil, y.l, records(retraction(fact("ok"))), fewRecords(t)} {
		for _, name := range principals() {
			j := newLog(t, name, l...)
			wantNotAgain(t, j, ringOf(t, "s"), api.ErrUnknown)
			wantNotAgain(t, j, ringOf(t, "s", "zoe", "anna"), api.ErrUnknown)
		}
	}
}

// TestAgainOfEachName: any principal that has a key.
func TestAgainOfEachName(t *testing.T) {
	for _, name := range principals() {
		j := newLog(t, name, assertion(fact("ok")))
		if x := wantAgain(t, j, ringOf(t, "", name)); x.Name() != name {
			t.Errorf("P22.5: the context of %q has the name %q", name, x.Name())
		}
	}
}

// refusedOnes: records that no context plays behind the life's history.
func refusedOnes(t *testing.T, y life) []api.Record {
	t.Helper()
	elsewhere := ringOf(t, "s", "ann", "bob")
	return records(
		assertion(clauseOf(t, "ok(z).")), assertion(clauseOf(t, "bob says p(d).")), retraction(clauseOf(t, "ok(y).")), retraction(clauseOf(t, "bob says p(a).")),
		taking(y.certs[0]), taking(y.certs[2]), taking(issued(t, elsewhere, "bob", "p(c).")), taking(turned(y.certs[1], len(y.certs[1])-1, 1)),
		forgetting(api.Digest{}), forgetting(cert.Id([]byte(y.certs[1]))), forgetting(digestOf("never")),
	)
}

// TestAgainRefused: one that is refused, at the end and with others behind it; ErrReplay each time, also if what stands behind could be played.
func TestAgainRefused(t *testing.T) {
	y := newLife(t)
	for _, r := range refusedOnes(t, y) {
		for _, behind := range [][]api.Record{nil, records(assertion(fact("last"))), records(assertion(fact("last")), taking(y.certs[1]))} {
			l := append(append(records(), y.l...), r)
			j := newLog(t, "ann", append(l, behind...)...)
			for range 2 {
				wantNotAgain(t, j, y.ring, api.ErrReplay)
			}
			back, _ := opened(t, string(j.Bytes()))
			wantNotAgain(t, back, y.ring, api.ErrReplay)
			wantAgain(t, newLog(t, "ann", append(append(records(), y.l...), behind...)...), y.ring)
		}
	}
}

// TestAgainWithoutOneRecord: of the history with one record left out, as Play has it.
func TestAgainWithoutOneRecord(t *testing.T) {
	y := newLife(t)
	refused := 0
	for i := range y.l {
		l := append(append(records(), y.l[:i]...), y.l[i+1:]...)
		j := newLog(t, "ann", l...)
		if _, all := played(t, y.ring, "ann", l); all {
			wantAgain(t, j, y.ring)
			continue
		}
		refused++
		wantNotAgain(t, j, y.ring, api.ErrReplay)
	}
	if refused < 3 || refused == len(y.l) {
		t.Errorf("too much alike: %d of %d are refused", refused, len(y.l))
	}
}

// TestAgainOnAnotherRing: where the certificates weren't issued; where they are issued later.
func TestAgainOnAnotherRing(t *testing.T) {
	y := newLife(t)
	j := newLog(t, "ann", y.l...)
	other := ringOf(t, "s", "ann", "bob")
	wantNotAgain(t, j, other, api.ErrReplay)
	issued(t, other, "bob", "p(a).")
	issued(t, other, "bob", "p(b).")
	wantNotAgain(t, j, other, api.ErrReplay)
	issued(t, other, "ann", "p(X) :- bob says p(X).")
	wantAgain(t, j, other)
	wantNotAgain(t, j, ringOf(t, "t", "ann", "bob"), api.ErrReplay)
	wantAgain(t, j, y.ring)
}

// TestContextsApart: each call makes a context of its own: what becomes of one is seen neither in another nor in the journal.
func TestContextsApart(t *testing.T) {
	y := newLife(t)
	j := newLog(t, "ann", y.l...)
	first, second := wantAgain(t, j, y.ring), wantAgain(t, j, y.ring)
	log, before := seenOf(j), seenIn(second)
	if n, f := first.Watch("ok(X)?"); n != 1 || f.Err != api.OK {
		t.Errorf("P22.5: the first watch is %d, %v", n, f)
	}
	first.Assert("ok(more). new(X) :- ok(X).")
	first.Retract("ok(z).")
	first.Forget(cert.Id([]byte(y.certs[0])))
	first.Import([]byte(y.certs[1]))
	if seenIn(second) != before || seenOf(j) != log || seenIn(first) == before {
		t.Errorf("P22.5: a context that was made again is seen elsewhere:\n%s", seenIn(second))
	}
	if n, f := second.Watch("ok(X)?"); n != 1 || f.Err != api.OK {
		t.Errorf("P22.5: the first watch of the second context is %d, %v", n, f)
	}
	third := wantAgain(t, j, y.ring)
	if seenIn(third) != before {
		t.Errorf("P22.5: the third context is\n%s", seenIn(third))
	}
	noted(t, j, assertion(fact("later")))
	if seenIn(second) != before || seenIn(third) != before {
		t.Error("P22.5: what is noted is seen in a context that was made ahead of it")
	}
	wantAgain(t, j, y.ring)
}

// TestAgainWithManyRecords: clauses that come and go, more than a model may be made of.
func TestAgainWithManyRecords(t *testing.T) {
	var l []api.Record
	for n := range 1200 {
		l = append(l, assertion(rule(atom("p", num(n)))))
	}
	for n := range 300 {
		l = append(l, retraction(rule(atom("p", num(4*n)))))
	}
	x, err := newLog(t, "ann", l...).Again(ringOf(t, "s", "ann"))
	if err != api.OK || len(x.Own()) != 900 {
		t.Fatalf("P22.5: %d", err)
	}
	y, err := newLog(t, "ann", l[:1100]...).Again(ringOf(t, "s", "ann"))
	if err != api.OK || len(y.Own()) != 1100 {
		t.Errorf("P22.5, R7: a context of 1100 clauses: %d", err)
	}
}

// TestAgainOfJournalsOfOthers: the name in the head decides whose context it is.
func TestAgainOfJournalsOfOthers(t *testing.T) {
	y := newLife(t)
	for _, name := range texts("ann", "bob") {
		x := wantAgain(t, newLog(t, name, y.l...), y.ring)
		b, f := x.Export("ok(z).", 0)
		said, err := cert.Open(y.ring, b)
		if f.Err != api.OK || err != api.OK || said.Signer != name {
			t.Errorf("P22.5: the context of %q signs as %q, %v, %d", name, said.Signer, f, err)
		}
	}
}

// TestAgainTwice: on a journal that another goes on with.
func TestAgainTwice(t *testing.T) {
	y := newLife(t)
	j := newLog(t, "ann", y.l[:4]...)
	back, _, _ := journal.Open(j.Bytes())
	noted(t, j, y.l[4:]...)
	wantAnswers(t, wantAgain(t, back, y.ring), 3)
	wantAnswers(t, wantAgain(t, j, y.ring), 3)
	wantAnswers(t, wantAgain(t, back, y.ring), 3)
	if len(wantAgain(t, back, y.ring).Own()) != 2 || len(wantAgain(t, j, y.ring).Own()) != 3 {
		t.Error("P22.5: two journals have one context")
	}
}
